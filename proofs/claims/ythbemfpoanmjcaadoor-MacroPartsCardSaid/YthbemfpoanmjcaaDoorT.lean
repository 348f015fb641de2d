import Derived.Test.YthbemfpoanmjcaaDoorS
namespace Go.Proofs.YthbemfpoanmjcaaDoor
open Go.RowKit
set_option linter.unusedVariables false

section
variable {nm want : Bs} {l au : List Pr}
theorem autos_text (hn : nmB nm = true) (hw : want.length ≤ 100) (hv : ∀ d op c, nm ∉ op → valueF l au (expandF l au d) op nm c = ((want, 0), c)) :
    expandF l au 40 [] ([60] ++ 36 :: ((40 :: (nm ++ [41])) ++ (36 :: ((123 :: (nm ++ [125])) ++ [62])))) 0 = (([60] ++ want ++ want ++ [62], 0), 2) := by
  obtain ⟨a1, a2, a3, a4, a5, a6⟩ := nm_ne hn
  have hl := (nm_parts hn).2.1
  obtain ⟨f, hf⟩ : ∃ f, ([60] ++ 36 :: ((40 :: (nm ++ [41])) ++ (36 :: ((123 :: (nm ++ [125])) ++ [62]))) : Bs).length + 1 = f + 1 + 1 + 1 := ⟨2 * nm.length + 6, by simp; omega⟩
  have hr : ∀ (o cl : UInt8) (c : Nat), c + 1 ≤ 10000 → referF l au (expandF l au 39) [] (o :: (nm ++ [cl])) c = ((want, 0), c + 1) := fun o cl c hc => by
    rw [refer_body hc (expand_plain _ _ _ _ nm _ (by omega) a1) a4, hv _ _ _ (by simp)]
  rw [expand_succ, if_neg (by simp; omega), hf]
  rw [pieces_ref (c2 := 1) (v := want) (by decide) (by simp) (by simp) (refN_open (.inl ⟨rfl, rfl⟩) (Bal.plain a2 a3) _) (by decide) (hr 40 41 0 (by decide))]
  have h2 := pieces_ref (rf := referF l au (expandF l au 39) []) (f := f + 1) (pre := []) (r := 123 :: (nm ++ [125])) (rest := [62]) (out := [] ++ [60] ++ want) (c := 1) (c2 := 2) (v := want) (by simp) (by simp) (by simp) (refN_open (.inr ⟨rfl, rfl⟩) (Bal.plain a5 a6) _) (by simp; omega) (hr 123 125 1 (by decide))
  rw [List.nil_append] at h2
  rw [h2, pieces_plain _ (by decide), fin3_ok' (by simp; omega)]
  simp
theorem autos_one (hn : nmB nm = true) (hw : want.length ≤ 100) (hv : ∀ d op c, nm ∉ op → valueF l au (expandF l au d) op nm c = ((want, 0), c)) (hno : ∀ x, x ≠ nm → lastV l x = none ∧ lastV au x = none) :
    ∃ t c, expandF l au 40 [] (36 :: nm) 0 = ((t, 0), c) ∧ (1 < nm.length ∨ t = want) := by
  obtain ⟨a1, a2, a3, a4, a5, a6⟩ := nm_ne hn
  obtain ⟨h0, hl, _⟩ := nm_parts hn
  cases hnm : nm with
  | nil => exact absurd hnm h0
  | cons x r =>
    have hx36 : x ≠ 36 := fun e => a1 (by rw [hnm, e]; simp)
    have hx40 : x ≠ 40 := fun e => a2 (by rw [hnm, e]; simp)
    have hx12 : x ≠ 123 := fun e => a5 (by rw [hnm, e]; simp)
    have hr36 : (36 : UInt8) ∉ r := fun hm => a1 (by rw [hnm]; exact List.mem_cons_of_mem _ hm)
    have hrl : r.length ≤ 60 := by rw [hnm, List.length_cons] at hl; omega
    have hrn : refN (36 :: ([x] ++ r)) = [x].length + 1 := by
      unfold refN
      rw [if_neg (by simpa using hx40), if_neg (by simpa using hx12)]; rfl
    have hgo : ∀ v, v.length ≤ 100 → valueF l au (expandF l au 39) [] [x] 1 = ((v, 0), 1) → expandF l au 40 [] (36 :: (x :: r)) 0 = ((v ++ r, 0), 1) := fun v hvl h => by
      rw [expand_succ, if_neg (by simp; omega)]
      have h2 := pieces_ref (rf := referF l au (expandF l au 39) []) (f := (36 :: (x :: r)).length) (pre := []) (r := [x]) (rest := r) (out := []) (c := 0) (c2 := 1) (v := v) (by simp) (by simp) (by simpa using hx36) hrn (by simp) (by rw [ref_one (by decide) rfl]; exact h)
      rw [List.nil_append] at h2
      show piecesF _ _ (36 :: ([x] ++ r)) [] 0 = _
      rw [h2, show (36 :: (x :: r)).length = (r.length + 1) + 1 by simp, pieces_plain _ hr36, fin3_ok' (by simp; omega)]
      simp
    by_cases hr : r = []
    · subst hr
      refine ⟨want, 1, ?_, .inr rfl⟩
      have := hgo want hw (by rw [← hnm]; exact hv _ _ _ (by simp))
      rw [this, List.append_nil]
    · have hne : [x] ≠ nm := fun e => hr (by rw [hnm] at e; injection e with _ e; exact e.symm)
      obtain ⟨n1, n2⟩ := hno _ hne
      refine ⟨[] ++ r, 1, hgo [] (by simp) (val_none n2 n1), .inl ?_⟩
      have := List.length_pos_iff.2 hr
      rw [List.length_cons]; omega
end
theorem autos_l (nm w : Bs) : lastV [(nm, [102, 105, 114, 115, 116]), (nm, w)] nm = some w ∧ ∀ x, x ≠ nm → lastV [(nm, [102, 105, 114, 115, 116]), (nm, w)] x = none :=
  ⟨lastV_some (k := 1) (by simp) (by simp) rfl, fun x hx => lastV_none (fun p hp => by simp at hp; rcases hp with rfl | rfl <;> exact fun e => hx e.symm)⟩
theorem autos_a (nm v : Bs) : lastV [(nm, v)] nm = some v ∧ ∀ x, x ≠ nm → lastV [(nm, v)] x = none :=
  ⟨lastV_some (k := 0) (by simp) (by simp) rfl, fun x hx => lastV_none (fun p hp => by simp at hp; rw [hp]; exact fun e => hx e.symm)⟩
set_option maxRecDepth 100000 in
set_option maxHeartbeats 8000000 in
theorem autos_walk (a v u : ByteArray) (au : Bool) (W : World) (ha : a.size ≤ maxLen) (hv : v.size ≤ maxLen) (hu : u.size ≤ maxLen) (hmm : ∃ m, W.cell? ⟨0, 0, none⟩ = some (.int .i64 m)) :
    Calls Tryd.prog 8 #[.string a, .string v, .string u, .bool au] W fun e w' => e = .returned (.bool true) ∧ Below W.heap.size W w' := by
  have ha2 : a.size ≤ 9223372036854775807 := by unfold maxLen at ha; omega
  have hv2 : v.size ≤ 9223372036854775807 := by unfold maxLen at hv; omega
  have hu2 : u.size ≤ 9223372036854775807 := by unfold maxLen at hu; omega
  have HA := Lib.hid (alive_any W hmm)
  have HMM := Lib.hid (fun w' hb => max_keep (w' := w') hmm hb)
  have HNA := Lib.hid (fun w => Name_any a w ha2)
  clear hmm ha hv hu
  cases hna : nmB a.data.toList with
  | false =>
    rw [hna] at HNA
    clear hna
    go_enter Tryd.func8, Tryd.ntmps8
    go_wp2_with (first
      | (go_at_call 11; refine HA.out.mono ?_; rintro e w5 ⟨rfl, h5⟩; have HB := Lib.hid h5; clear h5; simp only [])
      | (go_at_call 12; refine (HNA.out _).mono ?_; rintro e w6 ⟨rfl, h6⟩; obtain rfl := h6.symm; simp only []))
    go_ret
    exact ⟨rfl, HB.out⟩
  | true =>
  rw [hna] at HNA
  have HNM := Lib.hid hna
  clear hna
  by_cases h1 : 40 < a.size
  · have d1 : decide ((40 : Int) < (a.size : Int)) = true := decide_eq_true (by omega)
    go_enter Tryd.func8, Tryd.ntmps8
    go_wp2_with (first
      | (go_at_call 11; refine HA.out.mono ?_; rintro e w5 ⟨rfl, h5⟩; have HB := Lib.hid h5; clear h5; simp only [])
      | (go_at_call 12; refine (HNA.out _).mono ?_; rintro e w6 ⟨rfl, h6⟩; obtain rfl := h6.symm; simp only []))
    go_ret
    exact ⟨rfl, HB.out⟩
  have d1 : decide ((40 : Int) < (a.size : Int)) = false := decide_eq_false (by omega)
  by_cases h2 : 100 < v.size
  · have d2 : decide ((100 : Int) < (v.size : Int)) = true := decide_eq_true (by omega)
    go_enter Tryd.func8, Tryd.ntmps8
    go_wp2_with (first
      | (go_at_call 11; refine HA.out.mono ?_; rintro e w5 ⟨rfl, h5⟩; have HB := Lib.hid h5; clear h5; simp only [])
      | (go_at_call 12; refine (HNA.out _).mono ?_; rintro e w6 ⟨rfl, h6⟩; obtain rfl := h6.symm; simp only []))
    go_ret
    exact ⟨rfl, HB.out⟩
  have d2 : decide ((100 : Int) < (v.size : Int)) = false := decide_eq_false (by omega)
  by_cases h3 : 100 < u.size
  · have d3 : decide ((100 : Int) < (u.size : Int)) = true := decide_eq_true (by omega)
    go_enter Tryd.func8, Tryd.ntmps8
    go_wp2_with (first
      | (go_at_call 11; refine HA.out.mono ?_; rintro e w5 ⟨rfl, h5⟩; have HB := Lib.hid h5; clear h5; simp only [])
      | (go_at_call 12; refine (HNA.out _).mono ?_; rintro e w6 ⟨rfl, h6⟩; obtain rfl := h6.symm; simp only []))
    go_ret
    exact ⟨rfl, HB.out⟩
  have d3 : decide ((100 : Int) < (u.size : Int)) = false := decide_eq_false (by omega)
  go_enter Tryd.func8, Tryd.ntmps8
  go_wp2_with (first
    | (go_at_call 11; refine HA.out.mono ?_; rintro e w5 ⟨rfl, h5⟩; have HB := Lib.hid h5; clear h5; simp only [])
    | (go_at_call 12; refine (HNA.out _).mono ?_; rintro e w6 ⟨rfl, h6⟩; obtain rfl := h6.symm; simp only []))
  go_loopw [11] (fun i wx => ∃ k : Nat, k ≤ u.size ∧ i = .int .i64 k ∧ wx = w5 ∧ Hid ((36 : UInt8) ∉ u.data.toList.take k)) (fun i _ => u.size - (intOf i).toNat)
  case atStart => exact ⟨0, Nat.zero_le _, rfl, rfl, by intro h; cases h⟩
  case round =>
    obtain ⟨k, hk, rfl, rfl, HK⟩ := hrel
    by_cases hlt : k < u.size
    case pos =>
      have hltd : decide ((k : Int) < (u.size : Int)) = true := decide_eq_true (by omega)
      have hltI : (k : Int) < (u.size : Int) := by omega
      have hk0 : (0 : Int) ≤ (k : Int) := by omega
      have hb64 : IntKind.i64.wrap ((k : Int) + 1) = (k : Int) + 1 := IntWalk.i64_in _ (by omega)
      have hat := Lib.data_getElem? u k hlt
      obtain ⟨c, hc⟩ : ∃ c, u[k]'hlt = c := ⟨_, rfl⟩
      rw [hc] at hat
      have h36 := byte_eq c 36
      rw [show ((36 : UInt8).toNat : Int) = 36 from rfl] at h36
      by_cases hc36 : c = 36
      · have g2 : ((c.toNat : Int) == 36) = true := by rw [h36, hc36]; rfl
        clear h36 hc36 hat
        go_wp2_with fail
        go_ret
        exact ⟨rfl, HB.out⟩
      · have g2 : ((c.toNat : Int) == 36) = false := by rw [h36]; simpa using hc36
        have HK2 : Hid ((36 : UInt8) ∉ u.data.toList.take (k + 1)) := fun hm => by
          rw [List.take_add_one, hat] at hm
          rcases List.mem_append.1 hm with hm | hm
          · exact HK.out hm
          · simp at hm; exact hc36 hm.symm
        clear h36 hc36 hat
        go_wp2_with fail
        go_roundw
        case measure => simp [intOf]; omega
        case rel => exact ⟨k + 1, by omega, by go_num, by simp, HK2.out⟩
    case neg =>
    have hltd : decide ((k : Int) < (u.size : Int)) = false := decide_eq_false (by omega)
    have hu36 : (36 : UInt8) ∉ u.data.toList := fun hm => HK.out (by rw [List.take_of_length_le (by rw [dl]; omega)]; exact hm)
    obtain ⟨T1, hT1⟩ : ∃ T1 : ByteArray, (⟨#[60, 36, 40]⟩ : ByteArray) ++ a ++ (⟨#[41, 36]⟩ : ByteArray) ++ (⟨#[123]⟩ : ByteArray) ++ a ++ (⟨#[125, 62]⟩ : ByteArray) = T1 := ⟨_, rfl⟩
    obtain ⟨T2, hT2⟩ : ∃ T2 : ByteArray, (⟨#[36]⟩ : ByteArray) ++ a = T2 := ⟨_, rfl⟩
    have hd1 : T1.data.toList = [60] ++ 36 :: ((40 :: (a.data.toList ++ [41])) ++ (36 :: ((123 :: (a.data.toList ++ [125])) ++ [62]))) := by rw [← hT1]; simp
    have hd2 : T2.data.toList = 36 :: a.data.toList := by rw [← hT2]; simp
    have hz1 : ¬ (9223372036854775807 < 3 + a.size) := by omega
    have hz2 : ¬ (9223372036854775807 < 3 + a.size + 2) := by omega
    have hz3 : ¬ (9223372036854775807 < 3 + a.size + 2 + 1) := by omega
    have hz4 : ¬ (9223372036854775807 < 3 + a.size + 2 + 1 + a.size) := by omega
    have hz5 : ¬ (9223372036854775807 < 3 + a.size + 2 + 1 + a.size + 2) := by omega
    have hz6 : ¬ (9223372036854775807 < 1 + a.size) := by omega
    have hbl : Below wr.heap.size wr (wr.alloc (.cells #[.string a, .string ⟨#[102, 105, 114, 115, 116]⟩, .string a, .string u] 36)) := (Below.refl _ _).alloc (Nat.le_refl _) _
    have HPV := Lib.hid (PV.two wr (a, ⟨#[102, 105, 114, 115, 116]⟩) (a, u) (by show (5 : Nat) ≤ _; decide) hu2)
    obtain ⟨wa, hwa⟩ : ∃ wa, wr.alloc (.cells #[.string a, .string ⟨#[102, 105, 114, 115, 116]⟩, .string a, .string u] 36) = wa := ⟨_, rfl⟩
    have HBA : Hid (Below W.heap.size W wa) := by rw [← hwa]; exact HB.out.trans (hbl.mono HB.out.size)
    have HPA : Hid (PV wa.heap.size wa (.slice (some ⟨wr.heap.size, 0, none⟩) 2 2) [(a, ⟨#[102, 105, 114, 115, 116]⟩), (a, u)]) := by rw [← hwa]; exact HPV.out
    have hlv := autos_l a.data.toList u.data.toList
    have HN := Lib.hid (fun w => num_any 0 w)
    clear HPV hbl
    cases au
    case false =>
      have HBB := HBA
      have HPB := HPA
      have HPC : Hid (PV wa.heap.size wa (.slice none 0 0) []) := PV.nil _ _
      have hval : ∀ d op c, a.data.toList ∉ op → valueF (bsl [(a, (⟨#[102, 105, 114, 115, 116]⟩ : ByteArray)), (a, u)]) (bsl []) (expandF (bsl [(a, (⟨#[102, 105, 114, 115, 116]⟩ : ByteArray)), (a, u)]) (bsl []) d) op a.data.toList c = ((u.data.toList, 0), c) := fun d op c h => val_plain rfl hlv.1 h hu36 (by rw [dl]; omega)
      have hno : ∀ x, x ≠ a.data.toList → lastV (bsl [(a, (⟨#[102, 105, 114, 115, 116]⟩ : ByteArray)), (a, u)]) x = none ∧ lastV (bsl []) x = none := fun x hx => ⟨hlv.2 x hx, rfl⟩
      have e1 := autos_text HNM.out (by rw [dl]; omega) hval
      obtain ⟨t9, c9, e2, he2⟩ := autos_one HNM.out (by rw [dl]; omega) hval hno
      have hau : ∀ p ∈ ([] : Prs), p.2.size ≤ 300000 := by simp
      have HX1 : Hid (Calls Tryd.prog 15 #[.string T1, .slice (some ⟨wr.heap.size, 0, none⟩) 2 2, (.slice none 0 0)] wa (ExpP wa (([60] ++ u.data.toList ++ u.data.toList ++ [62], 0), 2))) := by
        have := Expand_any _ _ _ [] hau wa T1 HPB.out HPC.out (HMM.out _ HBB.out)
        rw [hd1, e1] at this
        exact this
      have HX2 : Hid (∀ wx, Below wa.heap.size wa wx → Calls Tryd.prog 15 #[.string T2, .slice (some ⟨wr.heap.size, 0, none⟩) 2 2, (.slice none 0 0)] wx (ExpP wx ((t9, 0), c9))) := fun wx hb => by
        have := Expand_any _ _ _ [] hau wx T2 (Below.pv HPB.out hb) (Below.pv HPC.out hb) (HMM.out _ (HBB.out.trans (hb.mono HBB.out.size)))
        rw [hd2, e2] at this
        exact this
      obtain ⟨Q, hQ⟩ : ∃ Q : ByteArray, (⟨#[60]⟩ : ByteArray) ++ u ++ u ++ (⟨#[62]⟩ : ByteArray) = Q := ⟨_, rfl⟩
      have hQd : Q.data.toList = [60] ++ u.data.toList ++ u.data.toList ++ [62] := by rw [← hQ]; simp
      have hy1 : ¬ (9223372036854775807 < 1 + u.size) := by omega
      have hy2 : ¬ (9223372036854775807 < 1 + u.size + u.size) := by omega
      have hy3 : ¬ (9223372036854775807 < 1 + u.size + u.size + 1) := by omega
      have hQQ : (Q.toList == Q.toList) = true := by simp
      have HE2 := Lib.hid he2
      rw [← hQd] at HX1
      clear e1 e2 he2 hau hval hno hlv hd1 hd2 hQd hu36
      go_wp2_with fail
      refine HX1.out.mono ?_
      rintro e w8 ⟨t, rfl, ht, hB8⟩
      obtain rfl : t = Q := ba_ext ht
      have HB8 := Lib.hid hB8
      clear ht hB8
      simp only []
      go_wp2_with (go_at_call 15; refine (HX2.out _ HB8.out).mono ?_)
      rintro e w9 ⟨t2, rfl, ht, hB9⟩
      have HT2 := Lib.hid ht
      have HB9 := Lib.hid (HBB.out.trans ((HB8.out.trans (hB9.mono HB8.out.size)).mono HBB.out.size))
      clear ht hB9
      simp only []
      by_cases hone : 1 < a.size
      · have hod : decide ((1 : Int) < (a.size : Int)) = true := decide_eq_true (by omega)
        go_wp2_with (go_at_call 16; refine (HN.out _).mono ?_; rintro e w10 ⟨rfl, h10⟩; obtain rfl := h10.symm; simp only [])
        go_ret
        exact ⟨rfl, HB9.out⟩
      · have hod : decide ((1 : Int) < (a.size : Int)) = false := decide_eq_false (by omega)
        have hw2 : t2 = u := ba_ext (by
          rcases HE2.out with h | h
          · rw [dl] at h; exact absurd h hone
          · rw [HT2.out]; exact h)
        subst hw2
        go_wp2_with (go_at_call 16; refine (HN.out _).mono ?_; rintro e w10 ⟨rfl, h10⟩; obtain rfl := h10.symm; simp only [])
        go_ret
        exact ⟨rfl, HB9.out⟩
    case true =>
      have hbl2 : Below wa.heap.size wa (wa.alloc (.cells #[.string a, .string v] 36)) := (Below.refl _ _).alloc (Nat.le_refl _) _
      have HPV2 := Lib.hid (PV.one wa (a, v) hv2)
      obtain ⟨wb, hwb⟩ : ∃ wb, wa.alloc (.cells #[.string a, .string v] 36) = wb := ⟨_, rfl⟩
      have HBB : Hid (Below W.heap.size W wb) := by rw [← hwb]; exact HBA.out.trans (hbl2.mono HBA.out.size)
      have HPB : Hid (PV wb.heap.size wb (.slice (some ⟨wr.heap.size, 0, none⟩) 2 2) [(a, ⟨#[102, 105, 114, 115, 116]⟩), (a, u)]) := by rw [← hwb]; exact Below.pv HPA.out hbl2
      have HPC : Hid (PV wb.heap.size wb (.slice (some ⟨wa.heap.size, 0, none⟩) 1 1) [(a, v)]) := by rw [← hwb]; exact HPV2.out
      have hav := autos_a a.data.toList v.data.toList
      have hval : ∀ d op c, a.data.toList ∉ op → valueF (bsl [(a, (⟨#[102, 105, 114, 115, 116]⟩ : ByteArray)), (a, u)]) (bsl [(a, v)]) (expandF (bsl [(a, (⟨#[102, 105, 114, 115, 116]⟩ : ByteArray)), (a, u)]) (bsl [(a, v)]) d) op a.data.toList c = ((v.data.toList, 0), c) := fun d op c _ => val_auto hav.1
      have hno : ∀ x, x ≠ a.data.toList → lastV (bsl [(a, (⟨#[102, 105, 114, 115, 116]⟩ : ByteArray)), (a, u)]) x = none ∧ lastV (bsl [(a, v)]) x = none := fun x hx => ⟨hlv.2 x hx, hav.2 x hx⟩
      clear HPV2 hbl2
      have e1 := autos_text HNM.out (by rw [dl]; omega) hval
      obtain ⟨t9, c9, e2, he2⟩ := autos_one HNM.out (by rw [dl]; omega) hval hno
      have hau : ∀ p ∈ ([(a, v)] : Prs), p.2.size ≤ 300000 := fun p hp => by simp at hp; rw [hp]; show v.size ≤ _; omega
      have HX1 : Hid (Calls Tryd.prog 15 #[.string T1, .slice (some ⟨wr.heap.size, 0, none⟩) 2 2, (.slice (some ⟨wa.heap.size, 0, none⟩) 1 1)] wb (ExpP wb (([60] ++ v.data.toList ++ v.data.toList ++ [62], 0), 2))) := by
        have := Expand_any _ _ _ [(a, v)] hau wb T1 HPB.out HPC.out (HMM.out _ HBB.out)
        rw [hd1, e1] at this
        exact this
      have HX2 : Hid (∀ wx, Below wb.heap.size wb wx → Calls Tryd.prog 15 #[.string T2, .slice (some ⟨wr.heap.size, 0, none⟩) 2 2, (.slice (some ⟨wa.heap.size, 0, none⟩) 1 1)] wx (ExpP wx ((t9, 0), c9))) := fun wx hb => by
        have := Expand_any _ _ _ [(a, v)] hau wx T2 (Below.pv HPB.out hb) (Below.pv HPC.out hb) (HMM.out _ (HBB.out.trans (hb.mono HBB.out.size)))
        rw [hd2, e2] at this
        exact this
      obtain ⟨Q, hQ⟩ : ∃ Q : ByteArray, (⟨#[60]⟩ : ByteArray) ++ v ++ v ++ (⟨#[62]⟩ : ByteArray) = Q := ⟨_, rfl⟩
      have hQd : Q.data.toList = [60] ++ v.data.toList ++ v.data.toList ++ [62] := by rw [← hQ]; simp
      have hy1 : ¬ (9223372036854775807 < 1 + v.size) := by omega
      have hy2 : ¬ (9223372036854775807 < 1 + v.size + v.size) := by omega
      have hy3 : ¬ (9223372036854775807 < 1 + v.size + v.size + 1) := by omega
      have hQQ : (Q.toList == Q.toList) = true := by simp
      have HE2 := Lib.hid he2
      rw [← hQd] at HX1
      clear e1 e2 he2 hau hval hno hlv hd1 hd2 hQd hu36
      go_wp2_with fail
      refine HX1.out.mono ?_
      rintro e w8 ⟨t, rfl, ht, hB8⟩
      obtain rfl : t = Q := ba_ext ht
      have HB8 := Lib.hid hB8
      clear ht hB8
      simp only []
      go_wp2_with (go_at_call 15; refine (HX2.out _ HB8.out).mono ?_)
      rintro e w9 ⟨t2, rfl, ht, hB9⟩
      have HT2 := Lib.hid ht
      have HB9 := Lib.hid (HBB.out.trans ((HB8.out.trans (hB9.mono HB8.out.size)).mono HBB.out.size))
      clear ht hB9
      simp only []
      by_cases hone : 1 < a.size
      · have hod : decide ((1 : Int) < (a.size : Int)) = true := decide_eq_true (by omega)
        go_wp2_with (go_at_call 16; refine (HN.out _).mono ?_; rintro e w10 ⟨rfl, h10⟩; obtain rfl := h10.symm; simp only [])
        go_ret
        exact ⟨rfl, HB9.out⟩
      · have hod : decide ((1 : Int) < (a.size : Int)) = false := decide_eq_false (by omega)
        have hw2 : t2 = v := ba_ext (by
          rcases HE2.out with h | h
          · rw [dl] at h; exact absurd h hone
          · rw [HT2.out]; exact h)
        subst hw2
        go_wp2_with (go_at_call 16; refine (HN.out _).mono ?_; rintro e w10 ⟨rfl, h10⟩; obtain rfl := h10.symm; simp only [])
        go_ret
        exact ⟨rfl, HB9.out⟩
end Go.Proofs.YthbemfpoanmjcaaDoor
