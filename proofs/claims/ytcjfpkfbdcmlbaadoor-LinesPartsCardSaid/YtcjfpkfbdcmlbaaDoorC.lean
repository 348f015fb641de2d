import Derived.Test.YtcjfpkfbdcmlbaaDoorB
namespace Go.Proofs.YtcjfpkfbdcmlbaaDoor
open Go.RowKit
set_option linter.unusedVariables false

theorem dl (s : ByteArray) : s.data.toList.length = s.size := Array.length_toList
theorem isE_of {t : ByteArray} (h : t.data.toList = []) : t.toList.isEmpty = true := by rw [Lib.toList_data, h]; rfl
theorem isE_ne {t : ByteArray} (h : t.data.toList ≠ []) : t.toList.isEmpty = false := by
  rw [Lib.toList_data]
  cases h' : t.data.toList with
  | nil => exact absurd h' h
  | cons a t => rfl
theorem ba_ext {a b : ByteArray} (h : a.data.toList = b.data.toList) : a = b := ByteArray.ext (Array.toList_inj.1 h)
theorem mk_data (s : ByteArray) : (⟨s.data.toList.toArray⟩ : ByteArray) = s := ba_ext rfl
theorem sz_mk (l : Bs) : (⟨l.toArray⟩ : ByteArray).size = l.length := by simp [ByteArray.size]
set_option maxRecDepth 100000 in
set_option maxHeartbeats 2000000 in
theorem cont_any (s : ByteArray) (w : World) (hs : s.size ≤ 1000000000) : Calls Tryd.prog 18 #[.string s] w fun e w' => e = .returned (.bool (odd s.data.toList)) ∧ Below w.heap.size w w' := by
  have ht := Tryd.trimRight s ⟨#[92]⟩ w (by omega) (by decide) (ascii_of_all (by decide))
  obtain ⟨T, hT⟩ : ∃ T : ByteArray, (⟨(Lib.trimRightS s.data.toList [92]).toArray⟩ : ByteArray) = T := ⟨_, rfl⟩
  have ht2 : Calls Tryd.prog 20 #[.string s, .string ⟨#[92]⟩] w fun e w' => e = .returned (.string T) ∧ Below w.heap.size w w' := by rw [← hT]; exact ht
  have hsl := sl_trim s.data.toList
  rw [dl, show (Lib.trimRightS s.data.toList [92]).length = T.size by rw [← hT, sz_mk]] at hsl
  obtain ⟨n, hn⟩ : ∃ n, sl s.data.toList = n := ⟨_, rfl⟩
  rw [hn] at hsl
  have hb1 : IntKind.i64.wrap ((s.size : Int) - (T.size : Int)) = (n : Int) := by rw [IntWalk.i64_in _ (by omega)]; omega
  have hb2 : Int.tmod (n : Int) 2 = ((n % 2 : Nat) : Int) := by rw [Int.tmod_eq_emod_of_nonneg (by omega)]; omega
  obtain ⟨r, hr⟩ : ∃ r, odd s.data.toList = r := ⟨_, rfl⟩
  have HR : Hid ((((n : Int) % 2) == 1) = r) := by
    rw [Hid, ← hr]; unfold odd; rw [hn]
    rw [Bool.eq_iff_iff]; simp; omega
  rw [hr]
  have HT := Lib.hid ht2
  clear ht ht2 hT hn hr
  go_enter Tryd.func18, Tryd.ntmps18
  go_wp2_with (go_at_call 20; refine HT.out.mono ?_; rintro e w1 ⟨rfl, h1⟩; have HB := Lib.hid h1; clear h1; simp only [])
  go_ret
  exact ⟨congrArg (fun b => Ending.returned (.bool b)) HR.out, HB.out⟩
theorem blank_any (c : UInt8) (w : World) : Calls Tryd.prog 27 #[.int .u8 c.toNat] w fun e w' => e = .returned (.bool (isB c)) ∧ w' = w := by
  have h0 : ∀ d : UInt8, ((c.toNat : Int) == (d.toNat : Int)) = (c == d) := by
    intro d
    rw [Bool.eq_iff_iff]
    simp only [beq_iff_eq]
    constructor
    · intro h; exact UInt8.toNat_inj.1 (by omega)
    · intro h; rw [h]
  have e : isB c = ((c == 32) || (c == 9)) := by
    unfold isB; simp only [List.contains, List.elem]
    cases (c == 32) <;> cases (c == 9) <;> rfl
  have h1 := h0 32
  have h2 := h0 9
  rw [e]
  cases hc1 : (c == 32) with
  | true =>
    rw [hc1] at h1
    have h1 : ((c.toNat : Int) == 32) = true := h1
    clear h0 h2 e hc1
    go_enter Tryd.func27, Tryd.ntmps27
    go_wp2_with fail
    go_ret
    exact ⟨rfl, rfl⟩
  | false =>
    rw [hc1] at h1
    have h1 : ((c.toNat : Int) == 32) = false := h1
    cases hc2 : (c == 9) with
    | true =>
      rw [hc2] at h2
      have h2 : ((c.toNat : Int) == 9) = true := h2
      clear h0 e hc1 hc2
      go_enter Tryd.func27, Tryd.ntmps27
      go_wp2_with fail
      go_ret
      exact ⟨rfl, rfl⟩
    | false =>
      rw [hc2] at h2
      have h2 : ((c.toNat : Int) == 9) = false := h2
      clear h0 e hc1 hc2
      go_enter Tryd.func27, Tryd.ntmps27
      go_wp2_with fail
      go_ret
      exact ⟨rfl, rfl⟩
set_option maxRecDepth 100000 in
set_option maxHeartbeats 2000000 in
theorem odd_any (s : ByteArray) (w : World) (hs : s.size ≤ 1000000000) : Calls Tryd.prog 26 #[.string s] w fun e w' => e = .returned (.bool (odd s.data.toList)) ∧ w' = w := by
  have hsI : (s.size : Int) ≤ 1000000000 := by omega
  go_enter Tryd.func26, Tryd.ntmps26
  go_wp2_with fail
  go_loopw [3] (fun i wx => ∃ n : Nat, n ≤ s.size ∧ i = .int .i64 n ∧ wx = w ∧ Hid (∀ x ∈ s.data.toList.reverse.take n, x = 92)) (fun i _ => s.size - (intOf i).toNat)
  case atStart => exact ⟨0, by omega, rfl, rfl, fun x hx => by cases hx⟩
  case round =>
    obtain ⟨n, hn, rfl, rfl, HA⟩ := hrel
    have hrl : s.data.toList.reverse.length = s.size := by rw [List.length_reverse, dl]
    by_cases hlt : n < s.size
    · have hltd : decide ((n : Int) < (s.size : Int)) = true := decide_eq_true (by omega)
      have hb1 : IntKind.i64.wrap ((s.size : Int) - 1) = (s.size : Int) - 1 := IntWalk.i64_in _ (by omega)
      obtain ⟨j, hj⟩ : ∃ j : Nat, (s.size : Int) - 1 - (n : Int) = (j : Int) ∧ j = s.size - 1 - n := ⟨s.size - 1 - n, by omega, rfl⟩
      have hb2 : IntKind.i64.wrap ((s.size : Int) - 1 - (n : Int)) = (j : Int) := by rw [IntWalk.i64_in _ (by omega), hj.1]
      have hjl : j < s.size := by omega
      obtain ⟨c, hc⟩ : ∃ c, s[j]'hjl = c := ⟨_, rfl⟩
      have hcr : s.data.toList.reverse[n]? = some c := by
        rw [List.getElem?_reverse (by rw [dl]; exact hlt), dl, ← hj.2, Lib.data_getElem? s j hjl, hc]
      have hj0 : (0 : Int) ≤ (j : Int) := by omega
      have hjI : (j : Int) < (s.size : Int) := by omega
      by_cases h92 : c = 92
      · have h1 : ((c.toNat : Int) == 92) = true := by rw [h92]; rfl
        have HN : Hid (∀ x ∈ s.data.toList.reverse.take (n + 1), x = 92) := fun x hx => by
          rw [List.take_add_one, hcr] at hx
          rcases List.mem_append.1 hx with hx | hx
          · exact HA.out x hx
          · simp at hx; rw [hx]; exact h92
        have hj1 := hj.1
        clear hcr h92 hrl hj
        go_wp2_with fail
        go_roundw
        case measure => simp [intOf]; omega
        case rel => exact ⟨n + 1, by omega, by go_num, by simp, HN.out⟩
      · have h1 : ((c.toNat : Int) == 92) = false := by
          rw [beq_eq_false_iff_ne]
          intro h
          exact h92 (UInt8.toNat_inj.1 (by show c.toNat = 92; omega))
        have hsl := sl_at (s := s.data.toList) HA.out (by rw [dl]; exact hn) (fun d hd => by rw [hcr] at hd; cases hd; exact h92)
        have HR : Hid ((((n : Int) % 2) == 1) = odd s.data.toList) := by
          rw [Hid]; unfold odd; rw [hsl]
          rw [Bool.eq_iff_iff]; simp; omega
        have hj1 := hj.1
        clear hcr h92 hrl hj hsl
        go_wp2_with fail
        go_ret
        exact ⟨congrArg (fun b => Ending.returned (.bool b)) HR.out, rfl⟩
    · obtain rfl : n = s.size := by omega
      have hltd : decide ((s.size : Int) < (s.size : Int)) = false := decide_eq_false (by omega)
      have hsl := sl_at (s := s.data.toList) HA.out (by rw [dl]; exact hn) (fun d hd => by
        have := (List.getElem?_eq_some_iff.1 hd).1
        omega)
      have HR : Hid ((((s.size : Int) % 2) == 1) = odd s.data.toList) := by
        rw [Hid]; unfold odd; rw [hsl]
        rw [Bool.eq_iff_iff]; simp; omega
      clear hsl
      go_wp2_with fail
      go_ret
      exact ⟨congrArg (fun b => Ending.returned (.bool b)) HR.out, rfl⟩
def szOf : Value → Nat | .string s => s.size | _ => 0
theorem first_byte {t : ByteArray} (h : 0 < t.size) : t.data.toList = (t[0]'h) :: (t.extract 1 t.size).data.toList := by
  have e := Lib.extract_to_end t 1
  rw [e]
  have h2 := Lib.data_getElem? t 0 h
  cases h3 : t.data.toList with
  | nil => rw [h3] at h2; simp at h2
  | cons a r => rw [h3] at h2; simp at h2; rw [← h2]; rfl
theorem last_byte {t : ByteArray} (h : 0 < t.size) : t.data.toList = (t.extract 0 (t.size - 1)).data.toList ++ [t[t.size - 1]'(by omega)] := by
  rw [Lib.extract_from_zero]
  have h2 := Lib.data_getElem? t (t.size - 1) (by omega)
  have h3 : t.data.toList.take (t.size - 1 + 1) = t.data.toList.take (t.size - 1) ++ [t[t.size - 1]'(by omega)] := by
    rw [List.take_add_one, h2]; rfl
  rw [← h3, List.take_of_length_le (by rw [dl]; omega)]
theorem last_at {u : ByteArray} (h : 0 < u.size) : ∃ m : Nat, ∃ hm : m < u.size, u.size = m + 1 ∧ u.data.toList = (u.extract 0 m).data.toList ++ [u[m]'hm] ∧ (u.extract 0 m).size = m :=
  ⟨u.size - 1, by omega, by omega, last_byte h, by simp⟩
set_option maxRecDepth 100000 in
set_option maxHeartbeats 2000000 in
theorem trim_any (s : ByteArray) (w : World) (hs : s.size ≤ 1000000000) : Calls Tryd.prog 28 #[.string s] w fun e w' => e = .returned (.string ⟨(trR (trL s.data.toList)).toArray⟩) ∧ w' = w := by
  obtain ⟨G, hG⟩ : ∃ G, trL s.data.toList = G := ⟨_, rfl⟩
  rw [hG]
  have HG := Lib.hid hG
  obtain ⟨K, hK⟩ : ∃ K, trR G = K := ⟨_, rfl⟩
  rw [hK]
  have HK := Lib.hid hK
  clear hG hK
  go_enter Tryd.func28, Tryd.ntmps28
  go_wp2_with fail
  go_loopw [0] (fun x wx => ∃ t : ByteArray, t.size ≤ s.size ∧ x = .string t ∧ wx = w ∧ Hid (trL t.data.toList = G)) (fun x _ => szOf x)
  case atStart => exact ⟨s, Nat.le_refl _, rfl, rfl, HG.out⟩
  case round =>
    obtain ⟨t, hts, rfl, rfl, HA⟩ := hrel
    have key : ∀ hgo : t.data.toList = G, True := fun _ => trivial
    by_cases h0 : t.size = 0
    · have hnil : t.data.toList = [] := List.length_eq_zero_iff.1 (by rw [dl]; exact h0)
      have h1 := isE_of hnil
      have HB : Hid (trR t.data.toList = K) := by
        have := HA.out
        rw [hnil] at this ⊢
        rw [← HK.out, ← this]; rfl
      clear hnil key
      go_wp2_with fail
      go_loopw [0] (fun x wx => ∃ t2 : ByteArray, t2 = t ∧ x = .string t2 ∧ wx = wr) (fun x _ => szOf x)
      case atStart => exact ⟨t, rfl, rfl, rfl⟩
      case round =>
        obtain ⟨t2, rfl, rfl, rfl⟩ := hrel
        have HE : Hid (Ending.returned (.string t2) = .returned (.string ⟨K.toArray⟩)) := by
          rw [Hid, ← HB.out]
          have : t2.data.toList = [] := List.length_eq_zero_iff.1 (by rw [dl]; exact h0)
          rw [this, trR_nil]; congr 2; exact ba_ext this
        go_wp2_with fail
        go_ret
        exact ⟨HE.out, rfl⟩
    · have h0p : 0 < t.size := by omega
      have hfb := first_byte h0p
      have h1 := isE_ne (t := t) (fun e => by rw [e] at hfb; cases hfb)
      obtain ⟨c, hc⟩ : ∃ c, t[0]'h0p = c := ⟨_, rfl⟩
      rw [hc] at hfb
      have h0I : (0 : Int) < (t.size : Int) := by omega
      have h1I : (1 : Int) ≤ (t.size : Int) := by omega
      have HBL := Lib.hid (fun wx => blank_any c wx)
      cases hb : isB c with
      | true =>
        rw [hb] at HBL
        obtain ⟨E, hE⟩ : ∃ E, t.extract 1 t.size = E := ⟨_, rfl⟩
        have hEs : E.size = t.size - 1 := by rw [← hE]; simp
        rw [hE] at hfb
        have HN : Hid (trL E.data.toList = G) := by
          have := HA.out
          rw [hfb, trL_cons, if_pos hb] at this
          exact this
        clear hfb hb key
        go_wp2_with (go_at_call 27; refine (HBL.out _).mono ?_; rintro e w5 ⟨rfl, h5⟩; obtain rfl := h5.symm; simp only [])
        go_roundw
        case measure => simp [szOf]; omega
        case rel => exact ⟨E, by omega, rfl, by simp, HN.out⟩
      | false =>
        rw [hb] at HBL
        have hGt : t.data.toList = G := by
          have := HA.out
          rw [hfb, trL_cons, if_neg (by simp [hb])] at this
          rw [hfb]; exact this
        clear hfb hb key
        have HK2 : Hid (trR t.data.toList = K) := by rw [hGt]; exact HK.out
        clear hGt
        go_wp2_with (go_at_call 27; refine (HBL.out _).mono ?_; rintro e w5 ⟨rfl, h5⟩; obtain rfl := h5.symm; simp only [])
        clear HBL hc h1 h0 h0I h1I
        go_loopw [0] (fun x wx => ∃ u : ByteArray, u.size ≤ t.size ∧ x = .string u ∧ wx = wr ∧ Hid (trR u.data.toList = K)) (fun x _ => szOf x)
        case atStart => exact ⟨t, Nat.le_refl _, rfl, rfl, HK2.out⟩
        case round =>
          obtain ⟨u, hus, rfl, rfl, HU⟩ := hrel
          by_cases h0 : u.size = 0
          · have hnil : u.data.toList = [] := List.length_eq_zero_iff.1 (by rw [dl]; exact h0)
            have h1 := isE_of hnil
            have HE : Hid (Ending.returned (.string u) = .returned (.string ⟨K.toArray⟩)) := by
              rw [Hid, ← HU.out, hnil, trR_nil]; congr 2; exact ba_ext hnil
            clear hnil
            go_wp2_with fail
            go_ret
            exact ⟨HE.out, rfl⟩
          · have h0p : 0 < u.size := by omega
            obtain ⟨m, hul, hum, hlb, hEs⟩ := last_at h0p
            have h1 := isE_ne (t := u) (fun e => by rw [e] at hlb; simp at hlb)
            have hb1 : IntKind.i64.wrap ((u.size : Int) - 1) = (m : Int) := by rw [IntWalk.i64_in _ (by omega)]; omega
            obtain ⟨c, hc⟩ : ∃ c, u[m]'hul = c := ⟨_, rfl⟩
            obtain ⟨E, hE⟩ : ∃ E, u.extract 0 m = E := ⟨_, rfl⟩
            rw [hc, hE] at hlb
            rw [hE] at hEs
            have HUM := Lib.hid hum
            have hm0 : (0 : Int) ≤ (m : Int) := by omega
            have hmI : (m : Int) < (u.size : Int) := by omega
            have hmI2 : (m : Int) ≤ (u.size : Int) := by omega
            have HBL := Lib.hid (fun wx => blank_any c wx)
            clear hum
            cases hb : isB c with
            | true =>
              rw [hb] at HBL
              have HN : Hid (trR E.data.toList = K) := by
                have := HU.out
                rw [hlb, trR_snoc, if_pos hb] at this
                exact this
              clear hlb hb
              go_wp2_with (go_at_call 27; refine (HBL.out _).mono ?_; rintro e w5 ⟨rfl, h5⟩; obtain rfl := h5.symm; simp only [])
              go_roundw
              case measure => have := HUM.out; simp [szOf]; omega
              case rel => exact ⟨E, by have := HUM.out; omega, rfl, by simp, HN.out⟩
            | false =>
              rw [hb] at HBL
              have HE : Hid (Ending.returned (.string u) = .returned (.string ⟨K.toArray⟩)) := by
                have := HU.out
                rw [hlb, trR_snoc, if_neg (by simp [hb]), ← hlb] at this
                rw [Hid, ← this, mk_data]
              clear hlb hb
              go_wp2_with (go_at_call 27; refine (HBL.out _).mono ?_; rintro e w5 ⟨rfl, h5⟩; obtain rfl := h5.symm; simp only [])
              go_ret
              exact ⟨HE.out, rfl⟩
end Go.Proofs.YtcjfpkfbdcmlbaaDoor
