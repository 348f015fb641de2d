import Derived.Test.YtdkkfcpnfhfjdaaT
namespace Go.Proofs.Ytdkkfcpnfhfjdaa
open Go.RowKit
set_option linter.unusedVariables false

/-- The pattern that a word is. -/
def patL (l : List P2) : Bs := l.flatMap fun p => if p.1 = 1 then p.2 else qt p.2
theorem patL_take {L : List Pt} {k : Nat} (h : k < L.length) : patL (p2s (L.take (k + 1))) = patL (p2s (L.take k)) ++ (if L[k].k = 1 then L[k].t.data.toList else qt L[k].t.data.toList) := by
  rw [take_p2 h]; unfold patL; rw [List.flatMap_append]; simp [Pt.p2]
theorem patL_le (L : List Pt) (k : Nat) : (patL (p2s (L.take k))).length ≤ (patL (p2s L)).length := by
  conv => rhs; rw [← List.take_append_drop k L]
  unfold p2s patL
  rw [List.map_append, List.flatMap_append, List.length_append]; omega
set_option maxRecDepth 100000 in
set_option maxHeartbeats 8000000 in
theorem RefText_any (v : Value) (L : List Pt) (w : World) (hL : L.length ≤ 100000) (hT : (textL (p2s L)).length ≤ 1000000) (hS : Sl w v L) :
    Calls Try.prog 12 #[v] w fun e w' => e = .returned (.string ⟨(textL (p2s L)).toArray⟩) ∧ Below w.heap.size w w' := by
  obtain ⟨a0, c0, hv, _⟩ := hS.form
  subst hv
  have HS := Lib.hid hS
  have hlI : (L.length : Int) ≤ 100000 := by omega
  clear hS
  go_enter Try.func12, Try.ntmps12
  go_wp2_with fail
  go_loopw [3, 4] (fun x i wx => ∃ (k : Nat) (s : ByteArray), k ≤ L.length ∧ x = .string s ∧ i = .int .i64 k ∧ Hid (s.data.toList = textL (p2s (L.take k))) ∧ Hid (Below w.heap.size w wx)) (fun _ i _ => L.length - (intOf i).toNat)
  case atStart => exact ⟨0, _, by omega, rfl, rfl, rfl, Below.refl _ _⟩
  case round =>
    obtain ⟨k, s, hk, rfl, rfl, HD, HB⟩ := hrel
    by_cases hlt : k < L.length
    · have hltI : (k : Int) < (L.length : Int) := by omega
      have hltd : decide ((k : Int) < (L.length : Int)) = true := decide_eq_true hltI
      have hk0 : (0 : Int) ≤ (k : Int) := by omega
      obtain ⟨b, off, wa, wc, e1, e8, hb, q0, q1, q2, q3, q4, q5⟩ := (HS.out.below HB.out).at hlt
      subst e1
      have HT := Lib.hid (textL_take hlt)
      have hle := textL_le L (k + 1)
      rw [HT.out, List.length_append] at hle
      obtain ⟨t, ht⟩ : ∃ t, L[k].t = t := ⟨_, rfl⟩
      rw [ht] at q1 HT hle
      have hsl : s.data.toList.length = s.size := Array.length_toList
      have htl : t.data.toList.length = t.size := Array.length_toList
      rw [← HD.out, hsl, htl] at hle
      have hs1 : ¬ (9223372036854775807 < s.size + t.size) := by omega
      have HN : Hid ((s ++ t).data.toList = textL (p2s (L.take (k + 1)))) := by
        rw [Hid, HT.out, ← HD.out]; simp
      have ad := add6 b off k
      clear e8 ht hle hsl htl HT q0 q2 q3 q4 q5
      go_wp2_with fail
      go_roundw
      case measure => simp [intOf]; omega
      case rel => exact ⟨k + 1, _, by omega, rfl, by go_num, HN.out, HB.out⟩
    · obtain rfl : k = L.length := by omega
      have hltd : decide ((L.length : Int) < (L.length : Int)) = false := decide_eq_false (by omega)
      rw [List.take_length] at HD
      have HE : Hid (s = ⟨(textL (p2s L)).toArray⟩) := by
        rw [Hid]; apply ByteArray.ext; apply Array.toList_inj.1; rw [HD.out]
      rw [HE.out]
      clear HD
      go_wp2_with fail
      go_ret
      exact ⟨rfl, HB.out⟩
set_option maxRecDepth 100000 in
set_option maxHeartbeats 8000000 in
theorem RefPattern_any (v : Value) (L : List Pt) (w : World) (hL : L.length ≤ 100000) (hT : (patL (p2s L)).length ≤ 1000000) (hZ : ∀ p ∈ L, p.t.size ≤ 100000) (hS : Sl w v L) :
    Calls Try.prog 14 #[v] w fun e w' => e = .returned (.string ⟨(patL (p2s L)).toArray⟩) ∧ Below w.heap.size w w' := by
  obtain ⟨a0, c0, hv, _⟩ := hS.form
  subst hv
  have HS := Lib.hid hS
  have HZ := Lib.hid hZ
  have hlI : (L.length : Int) ≤ 100000 := by omega
  clear hS hZ
  go_enter Try.func14, Try.ntmps14
  go_wp2_with fail
  go_loopw [3, 4] (fun x i wx => ∃ (k : Nat) (s : ByteArray), k ≤ L.length ∧ x = .string s ∧ i = .int .i64 k ∧ Hid (s.data.toList = patL (p2s (L.take k))) ∧ Hid (Below w.heap.size w wx)) (fun _ i _ => L.length - (intOf i).toNat)
  case atStart => exact ⟨0, _, by omega, rfl, rfl, rfl, Below.refl _ _⟩
  case round =>
    obtain ⟨k, s, hk, rfl, rfl, HD, HB⟩ := hrel
    by_cases hlt : k < L.length
    · have hltI : (k : Int) < (L.length : Int) := by omega
      have hltd : decide ((k : Int) < (L.length : Int)) = true := decide_eq_true hltI
      have hk0 : (0 : Int) ≤ (k : Int) := by omega
      obtain ⟨b, off, wa, wc, e1, e8, hb, q0, q1, q2, q3, q4, q5⟩ := (HS.out.below HB.out).at hlt
      subst e1
      have HT := Lib.hid (patL_take hlt)
      have hle := patL_le L (k + 1)
      rw [HT.out, List.length_append] at hle
      have hz := HZ.out _ (List.getElem_mem hlt)
      obtain ⟨kd, hkd⟩ : ∃ kd, L[k].k = kd := ⟨_, rfl⟩
      obtain ⟨t, ht⟩ : ∃ t, L[k].t = t := ⟨_, rfl⟩
      rw [ht] at q1 HT hle hz
      rw [hkd] at q0 HT hle
      have hsl : s.data.toList.length = s.size := Array.length_toList
      rw [← HD.out, hsl] at hle
      have ad := add6 b off k
      by_cases h1 : kd = 1
      · subst h1
        have htl : t.data.toList.length = t.size := Array.length_toList
        rw [if_pos rfl, htl] at hle
        have hs1 : ¬ (9223372036854775807 < s.size + t.size) := by omega
        have HN : Hid ((s ++ t).data.toList = patL (p2s (L.take (k + 1)))) := by
          rw [Hid, HT.out, if_pos rfl, ← HD.out]; simp
        clear e8 ht hkd hle hsl htl HT q2 q3 q4 q5
        go_wp2_with fail
        go_roundw
        case measure => simp [intOf]; omega
        case rel => exact ⟨k + 1, _, by omega, rfl, by go_num, HN.out, HB.out⟩
      · have h1' : (kd == 1) = false := by simpa using h1
        rw [if_neg h1] at hle
        obtain ⟨q, hq⟩ : ∃ q : ByteArray, (⟨(qt t.data.toList).toArray⟩ : ByteArray) = q := ⟨_, rfl⟩
        have hql : q.data.toList = qt t.data.toList := by rw [← hq]
        have hqs : (qt t.data.toList).length = q.size := by rw [← hql]; exact Array.length_toList
        rw [hqs] at hle
        have hs1 : ¬ (9223372036854775807 < s.size + q.size) := by omega
        have HN : Hid ((s ++ q).data.toList = patL (p2s (L.take (k + 1)))) := by
          rw [Hid, HT.out, if_neg h1, ← HD.out, ← hql]; simp
        have HQ := Lib.hid (RefQuote_any t wr hz)
        rw [hq] at HQ
        clear e8 ht hkd hle hsl hql hqs HT q2 q3 q4 q5 hq
        go_wp2_with (go_at_call 22; refine HQ.out.mono ?_; rintro e w5 ⟨rfl, h5⟩; have HB5 := Lib.hid (HB.out.trans (h5.mono HB.out.size)); clear h5; simp only [])
        go_roundw
        case measure => simp [intOf]; omega
        case rel => exact ⟨k + 1, _, by omega, rfl, by go_num, HN.out, HB5.out⟩
    · obtain rfl : k = L.length := by omega
      have hltd : decide ((L.length : Int) < (L.length : Int)) = false := decide_eq_false (by omega)
      rw [List.take_length] at HD
      have HE : Hid (s = ⟨(patL (p2s L)).toArray⟩) := by
        rw [Hid]; apply ByteArray.ext; apply Array.toList_inj.1; rw [HD.out]
      rw [HE.out]
      clear HD
      go_wp2_with fail
      go_ret
      exact ⟨rfl, HB.out⟩
set_option maxRecDepth 100000 in
set_option maxHeartbeats 8000000 in
theorem Pattern_any (v : Value) (L : List Pt) (w : World) (hL : L.length ≤ 100000) (hT : (patL (p2s L)).length ≤ 1000000) (hZ : ∀ p ∈ L, p.t.size ≤ 100000) (hS : Sl w v L) :
    Calls Try.prog 13 #[v] w fun e w' => e = .returned (.string ⟨(patL (p2s L)).toArray⟩) ∧ Below w.heap.size w w' := by
  obtain ⟨a0, c0, hv, _⟩ := hS.form
  subst hv
  have HS := Lib.hid hS
  have HZ := Lib.hid hZ
  have hlI : (L.length : Int) ≤ 100000 := by omega
  have HB0 := Lib.hid (Bd.new w)
  clear hS hZ
  go_enter Try.func13, Try.ntmps13
  go_wp2_with fail
  go_loopw [8] (fun i wx => ∃ k : Nat, k ≤ L.length ∧ i = .int .i64 k ∧ Hid (Bd w wx w.heap.size (patL (p2s (L.take k))))) (fun i _ => L.length - (intOf i).toNat)
  case atStart => exact ⟨0, by omega, rfl, HB0.out⟩
  case round =>
    obtain ⟨k, hk, rfl, HB⟩ := hrel
    by_cases hlt : k < L.length
    · have hltI : (k : Int) < (L.length : Int) := by omega
      have hk0 : (0 : Int) ≤ (k : Int) := by omega
      obtain ⟨b, off, wa, wc, e1, e8, hb, q0, q1, q2, q3, q4, q5⟩ := (HS.out.below HB.out.old).at hlt
      subst e1
      have HT := Lib.hid (patL_take hlt)
      have hle := patL_le L (k + 1)
      rw [HT.out, List.length_append] at hle
      have hz := HZ.out _ (List.getElem_mem hlt)
      obtain ⟨kd, hkd⟩ : ∃ kd, L[k].k = kd := ⟨_, rfl⟩
      obtain ⟨t, ht⟩ : ∃ t, L[k].t = t := ⟨_, rfl⟩
      rw [ht] at q1 HT hle hz
      rw [hkd] at q0 HT hle
      have HB1 : Hid (Bd w (wr.alloc (.cells #[.int .i64 kd, .string t, .string ⟨#[]⟩, .string ⟨#[]⟩, .slice wa 0 wc, .bool false] 31)) w.heap.size (patL (p2s (L.take k)))) := HB.out.below ((Below.refl _ _).alloc (Nat.le_refl _) _)
      have ad := add6 b off k
      by_cases h1 : kd = 1
      · subst h1
        rw [if_pos rfl, show t.data.toList.length = t.size from Array.length_toList] at hle
        have HW := Lib.hid (HB1.out.write t (by omega))
        rw [if_pos rfl] at HT
        rw [← HT.out] at HW
        clear e8 hkd ht hle HB HB1 HT
        go_wp2_with (go_at_call 19; refine HW.out.mono ?_; rintro e w5 ⟨rfl, h5⟩; have HC := Lib.hid h5; clear h5; simp only [])
        go_roundw
        case measure => simp [intOf]; omega
        case rel => exact ⟨k + 1, by omega, rfl, HC.out⟩
      · have h1' : (kd == 1) = false := by simpa using h1
        rw [if_neg h1] at hle HT
        obtain ⟨q, hq⟩ : ∃ q : ByteArray, (⟨(qt t.data.toList).toArray⟩ : ByteArray) = q := ⟨_, rfl⟩
        have hql : q.data.toList = qt t.data.toList := by rw [← hq]
        have hqs : (qt t.data.toList).length = q.size := by rw [← hql]; exact Array.length_toList
        rw [hqs] at hle
        rw [← hql] at HT
        have HQ : Hid (∀ w', Calls Try.prog 21 #[.string t] w' fun e w2 => e = .returned (.string q) ∧ Below w'.heap.size w' w2) := fun w' => by rw [← hq]; exact Quote_any t w' hz
        have HW : Hid (∀ w', Bd w w' w.heap.size (patL (p2s (L.take k))) → Calls Try.prog 19 #[.pointer (some ⟨w.heap.size, 0, none⟩), .string q] w' fun e w2 => e = .returned (.tuple #[.int .i64 q.size, .nilIface]) ∧ Bd w w2 w.heap.size (patL (p2s (L.take (k + 1))))) := fun w' h => by
          rw [HT.out]; exact h.write q (by omega)
        clear e8 hkd ht hle HB HT hql hqs hq
        go_wp2_with (first
          | (go_at_call 21; refine (HQ.out _).mono ?_; rintro e w5 ⟨rfl, h5⟩; have HB5 := Lib.hid (HB1.out.below h5); clear h5; simp only [])
          | (go_at_call 19; refine (HW.out _ HB5.out).mono ?_; rintro e w6 ⟨rfl, h6⟩; have HC := Lib.hid h6; clear h6; simp only []))
        go_roundw
        case measure => simp [intOf]; omega
        case rel => exact ⟨k + 1, by omega, rfl, HC.out⟩
    · obtain rfl : k = L.length := by omega
      rw [List.take_length] at HB
      have HF := Lib.hid (HB.out.str)
      clear HB
      go_wp2_with (go_at_call 20; refine HF.out.mono ?_; rintro e w5 ⟨rfl, h5⟩; have HC := Lib.hid h5; clear h5; simp only [])
      go_ret
      exact ⟨rfl, HC.out⟩
end Go.Proofs.Ytdkkfcpnfhfjdaa
