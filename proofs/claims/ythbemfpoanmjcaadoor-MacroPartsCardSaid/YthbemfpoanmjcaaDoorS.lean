import Derived.Test.YthbemfpoanmjcaaDoorR
namespace Go.Proofs.YthbemfpoanmjcaaDoor
open Go.RowKit
set_option linter.unusedVariables false

/-- Two pairs that have just been laid. -/
theorem PV.two (w : World) (p q : ByteArray × ByteArray) (hp : p.2.size ≤ 9223372036854775807) (hq : q.2.size ≤ 9223372036854775807) :
    PV (w.alloc (.cells #[.string p.1, .string p.2, .string q.1, .string q.2] 36)).heap.size (w.alloc (.cells #[.string p.1, .string p.2, .string q.1, .string q.2] 36)) (.slice (some ⟨w.heap.size, 0, none⟩) 2 2) [p, q] := by
  refine ⟨by simp, fun r hr => ?_, .inr ⟨w.heap.size, 0, 2, rfl, by simp, by simp, fun k hk => ?_⟩⟩
  · simp at hr; rcases hr with rfl | rfl <;> assumption
  · match k, hk with
    | 0, _ => constructor <;> (simp only [World.cell?, heap_alloc_new w]; rfl)
    | 1, _ => constructor <;> (simp only [World.cell?, heap_alloc_new w]; rfl)
set_option maxRecDepth 100000 in
set_option maxHeartbeats 8000000 in
theorem nested_walk (a b v : ByteArray) (W : World) (ha : a.size ≤ maxLen) (hb : b.size ≤ maxLen) (hv : v.size ≤ maxLen) (hmm : ∃ m, W.cell? ⟨0, 0, none⟩ = some (.int .i64 m)) :
    Calls Tryd.prog 9 #[.string a, .string b, .string v] W fun e w' => e = .returned (.bool true) ∧ Below W.heap.size W w' := by
  have ha2 : a.size ≤ 9223372036854775807 := by unfold maxLen at ha; omega
  have hb2 : b.size ≤ 9223372036854775807 := by unfold maxLen at hb; omega
  have hv2 : v.size ≤ 9223372036854775807 := by unfold maxLen at hv; omega
  have HA := Lib.hid (alive_any W hmm)
  have HMM := Lib.hid (fun w' hb => max_keep (w' := w') hmm hb)
  have HNA := Lib.hid (fun w => Name_any a w ha2)
  have HNB := Lib.hid (fun w => Name_any b w hb2)
  have hse := str_eq a b
  clear hmm ha hb hv
  cases hna : nmB a.data.toList with
  | false =>
    rw [hna] at HNA
    clear hna hse
    go_enter Tryd.func9, Tryd.ntmps9
    go_wp2_with (first
      | (go_at_call 11; refine HA.out.mono ?_; rintro e w5 ⟨rfl, h5⟩; have HB := Lib.hid h5; clear h5; simp only [])
      | (go_at_call 12; with_reducible refine (HNA.out _).mono ?_; rintro e w6 ⟨rfl, h6⟩; obtain rfl := h6.symm; simp only [])
      | (go_at_call 12; with_reducible refine (HNB.out _).mono ?_; rintro e w6 ⟨rfl, h6⟩; obtain rfl := h6.symm; simp only []))
    go_ret
    exact ⟨rfl, HB.out⟩
  | true =>
  rw [hna] at HNA
  cases hnb : nmB b.data.toList with
  | false =>
    rw [hnb] at HNB
    clear hna hnb hse
    go_enter Tryd.func9, Tryd.ntmps9
    go_wp2_with (first
      | (go_at_call 11; refine HA.out.mono ?_; rintro e w5 ⟨rfl, h5⟩; have HB := Lib.hid h5; clear h5; simp only [])
      | (go_at_call 12; with_reducible refine (HNA.out _).mono ?_; rintro e w6 ⟨rfl, h6⟩; obtain rfl := h6.symm; simp only [])
      | (go_at_call 12; with_reducible refine (HNB.out _).mono ?_; rintro e w6 ⟨rfl, h6⟩; obtain rfl := h6.symm; simp only []))
    go_ret
    exact ⟨rfl, HB.out⟩
  | true =>
  rw [hnb] at HNB
  have HNM := Lib.hid (And.intro hna hnb)
  clear hna hnb
  by_cases hab : a.data.toList = b.data.toList
  · have g1 : (a.toList == b.toList) = true := by rw [hse, hab]; simp
    clear hse hab
    go_enter Tryd.func9, Tryd.ntmps9
    go_wp2_with (first
      | (go_at_call 11; refine HA.out.mono ?_; rintro e w5 ⟨rfl, h5⟩; have HB := Lib.hid h5; clear h5; simp only [])
      | (go_at_call 12; with_reducible refine (HNA.out _).mono ?_; rintro e w6 ⟨rfl, h6⟩; obtain rfl := h6.symm; simp only [])
      | (go_at_call 12; with_reducible refine (HNB.out _).mono ?_; rintro e w6 ⟨rfl, h6⟩; obtain rfl := h6.symm; simp only []))
    go_ret
    exact ⟨rfl, HB.out⟩
  have g1 : (a.toList == b.toList) = false := by rw [hse]; simpa using hab
  have HAB := Lib.hid hab
  clear hse hab
  by_cases h1 : 30 < a.size
  · have d1 : decide ((30 : Int) < (a.size : Int)) = true := decide_eq_true (by omega)
    go_enter Tryd.func9, Tryd.ntmps9
    go_wp2_with (first
      | (go_at_call 11; refine HA.out.mono ?_; rintro e w5 ⟨rfl, h5⟩; have HB := Lib.hid h5; clear h5; simp only [])
      | (go_at_call 12; with_reducible refine (HNA.out _).mono ?_; rintro e w6 ⟨rfl, h6⟩; obtain rfl := h6.symm; simp only [])
      | (go_at_call 12; with_reducible refine (HNB.out _).mono ?_; rintro e w6 ⟨rfl, h6⟩; obtain rfl := h6.symm; simp only []))
    go_ret
    exact ⟨rfl, HB.out⟩
  have d1 : decide ((30 : Int) < (a.size : Int)) = false := decide_eq_false (by omega)
  by_cases h2 : 30 < b.size
  · have d2 : decide ((30 : Int) < (b.size : Int)) = true := decide_eq_true (by omega)
    go_enter Tryd.func9, Tryd.ntmps9
    go_wp2_with (first
      | (go_at_call 11; refine HA.out.mono ?_; rintro e w5 ⟨rfl, h5⟩; have HB := Lib.hid h5; clear h5; simp only [])
      | (go_at_call 12; with_reducible refine (HNA.out _).mono ?_; rintro e w6 ⟨rfl, h6⟩; obtain rfl := h6.symm; simp only [])
      | (go_at_call 12; with_reducible refine (HNB.out _).mono ?_; rintro e w6 ⟨rfl, h6⟩; obtain rfl := h6.symm; simp only []))
    go_ret
    exact ⟨rfl, HB.out⟩
  have d2 : decide ((30 : Int) < (b.size : Int)) = false := decide_eq_false (by omega)
  by_cases h3 : 60 < v.size
  · have d3 : decide ((60 : Int) < (v.size : Int)) = true := decide_eq_true (by omega)
    go_enter Tryd.func9, Tryd.ntmps9
    go_wp2_with (first
      | (go_at_call 11; refine HA.out.mono ?_; rintro e w5 ⟨rfl, h5⟩; have HB := Lib.hid h5; clear h5; simp only [])
      | (go_at_call 12; with_reducible refine (HNA.out _).mono ?_; rintro e w6 ⟨rfl, h6⟩; obtain rfl := h6.symm; simp only [])
      | (go_at_call 12; with_reducible refine (HNB.out _).mono ?_; rintro e w6 ⟨rfl, h6⟩; obtain rfl := h6.symm; simp only []))
    go_ret
    exact ⟨rfl, HB.out⟩
  have d3 : decide ((60 : Int) < (v.size : Int)) = false := decide_eq_false (by omega)
  go_enter Tryd.func9, Tryd.ntmps9
  go_wp2_with (first
    | (go_at_call 11; refine HA.out.mono ?_; rintro e w5 ⟨rfl, h5⟩; have HB := Lib.hid h5; clear h5; simp only [])
    | (go_at_call 12; with_reducible refine (HNA.out _).mono ?_; rintro e w6 ⟨rfl, h6⟩; obtain rfl := h6.symm; simp only [])
    | (go_at_call 12; with_reducible refine (HNB.out _).mono ?_; rintro e w6 ⟨rfl, h6⟩; obtain rfl := h6.symm; simp only []))
  go_loopw [9] (fun i wx => ∃ k : Nat, k ≤ v.size ∧ i = .int .i64 k ∧ wx = w5 ∧ Hid ((36 : UInt8) ∉ v.data.toList.take k)) (fun i _ => v.size - (intOf i).toNat)
  case atStart => exact ⟨0, Nat.zero_le _, rfl, rfl, by intro h; cases h⟩
  case round =>
    obtain ⟨k, hk, rfl, rfl, HK⟩ := hrel
    by_cases hlt : k < v.size
    case pos =>
      have hltd : decide ((k : Int) < (v.size : Int)) = true := decide_eq_true (by omega)
      have hltI : (k : Int) < (v.size : Int) := by omega
      have hk0 : (0 : Int) ≤ (k : Int) := by omega
      have hb64 : IntKind.i64.wrap ((k : Int) + 1) = (k : Int) + 1 := IntWalk.i64_in _ (by omega)
      have hat := Lib.data_getElem? v k hlt
      obtain ⟨c, hc⟩ : ∃ c, v[k]'hlt = c := ⟨_, rfl⟩
      rw [hc] at hat
      have h36 := byte_eq c 36
      rw [show ((36 : UInt8).toNat : Int) = 36 from rfl] at h36
      by_cases hc36 : c = 36
      · have g2 : ((c.toNat : Int) == 36) = true := by rw [h36, hc36]; rfl
        clear h36 hc36 hat
        go_wp2_with fail
        go_ret
        exact ⟨rfl, HB.out⟩
      · have g2 : ((c.toNat : Int) == 36) = false := by rw [h36]; simpa using hc36
        have HK2 : Hid ((36 : UInt8) ∉ v.data.toList.take (k + 1)) := fun hm => by
          rw [List.take_add_one, hat] at hm
          rcases List.mem_append.1 hm with hm | hm
          · exact HK.out hm
          · simp at hm; exact hc36 hm.symm
        clear h36 hc36 hat
        go_wp2_with fail
        go_roundw
        case measure => simp [intOf]; omega
        case rel => exact ⟨k + 1, by omega, by go_num, by simp, HK2.out⟩
    case neg =>
    have hltd : decide ((k : Int) < (v.size : Int)) = false := decide_eq_false (by omega)
    have hv36 : (36 : UInt8) ∉ v.data.toList := fun hm => HK.out (by rw [List.take_of_length_le (by rw [dl]; omega)]; exact hm)
    have hnv := fun o cl hoc => nested_val (o := o) (cl := cl) HNM.out.1 HNM.out.2 HAB.out (v := v.data.toList) (by rw [dl]; omega) hv36 hoc
    obtain ⟨c1, hv1⟩ := hnv 40 41 (.inl ⟨rfl, rfl⟩)
    obtain ⟨c2, hv2'⟩ := hnv 123 125 (.inr ⟨rfl, rfl⟩)
    obtain ⟨T1, hT1⟩ : ∃ T1 : ByteArray, (⟨#[36, 40, 36, 40]⟩ : ByteArray) ++ a ++ (⟨#[41, 41]⟩ : ByteArray) = T1 := ⟨_, rfl⟩
    obtain ⟨T2, hT2⟩ : ∃ T2 : ByteArray, (⟨#[36, 123, 36, 40]⟩ : ByteArray) ++ a ++ (⟨#[41, 125]⟩ : ByteArray) = T2 := ⟨_, rfl⟩
    have hd1 : T1.data.toList = 36 :: (40 :: (36 :: 40 :: (a.data.toList ++ [41]) ++ [41])) := by rw [← hT1]; simp
    have hd2 : T2.data.toList = 36 :: (123 :: (36 :: 40 :: (a.data.toList ++ [41]) ++ [125])) := by rw [← hT2]; simp
    have hz1 : ¬ (9223372036854775807 < 4 + a.size) := by omega
    have hz2 : ¬ (9223372036854775807 < 4 + a.size + 2) := by omega
    have hbl : Below wr.heap.size wr (wr.alloc (.cells #[.string a, .string b, .string b, .string v] 36)) := (Below.refl _ _).alloc (Nat.le_refl _) _
    have HPV := Lib.hid (PV.two wr (a, b) (b, v) hb2 hv2)
    obtain ⟨wa, hwa⟩ : ∃ wa, wr.alloc (.cells #[.string a, .string b, .string b, .string v] 36) = wa := ⟨_, rfl⟩
    have HBA : Hid (Below W.heap.size W wa) := by rw [← hwa]; exact HB.out.trans (hbl.mono HB.out.size)
    have HPA : Hid (PV wa.heap.size wa (.slice (some ⟨wr.heap.size, 0, none⟩) 2 2) [(a, b), (b, v)]) := by rw [← hwa]; exact HPV.out
    have HX1 : Hid (Calls Tryd.prog 15 #[.string T1, .slice (some ⟨wr.heap.size, 0, none⟩) 2 2, .slice none 0 0] wa (ExpP wa ((v.data.toList, 0), c1))) := by
      have := Expand_any _ _ _ [] (by simp) wa T1 HPA.out (PV.nil _ _) (HMM.out _ HBA.out)
      rw [hd1] at this
      rw [show expandF (bsl [(a, b), (b, v)]) (bsl []) 40 [] _ 0 = _ from hv1] at this
      exact this
    have HX2 : Hid (∀ wx, Below wa.heap.size wa wx → Calls Tryd.prog 15 #[.string T2, .slice (some ⟨wr.heap.size, 0, none⟩) 2 2, .slice none 0 0] wx (ExpP wx ((v.data.toList, 0), c2))) := fun wx hb => by
      have := Expand_any _ _ _ [] (by simp) wx T2 (Below.pv HPA.out hb) (PV.nil _ _) (HMM.out _ (HBA.out.trans (hb.mono HBA.out.size)))
      rw [hd2] at this
      rw [show expandF (bsl [(a, b), (b, v)]) (bsl []) 40 [] _ 0 = _ from hv2'] at this
      exact this
    have HN := Lib.hid (fun w => num_any 0 w)
    clear hv1 hv2' hd1 hd2 hnv hv36 HPV hbl
    go_wp2_with fail
    refine HX1.out.mono ?_
    rintro e w8 ⟨t, rfl, ht, hB8⟩
    obtain rfl : t = v := ba_ext ht
    have HB8 := Lib.hid hB8
    clear ht hB8
    simp only []
    go_wp2_with (go_at_call 15; refine (HX2.out _ HB8.out).mono ?_)
    rintro e w9 ⟨t2, rfl, ht, hB9⟩
    obtain rfl : t2 = t := ba_ext ht
    have HB9 := Lib.hid (HBA.out.trans ((HB8.out.trans (hB9.mono HB8.out.size)).mono HBA.out.size))
    clear ht hB9
    simp only []
    go_wp2_with (go_at_call 16; refine (HN.out _).mono ?_; rintro e w10 ⟨rfl, h10⟩; obtain rfl := h10.symm; simp only [])
    go_ret
    exact ⟨rfl, HB9.out⟩
end Go.Proofs.YthbemfpoanmjcaaDoor
