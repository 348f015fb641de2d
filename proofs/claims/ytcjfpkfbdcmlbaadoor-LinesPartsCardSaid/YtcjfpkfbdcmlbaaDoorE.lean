import Derived.Test.YtcjfpkfbdcmlbaaDoorD
namespace Go.Proofs.YtcjfpkfbdcmlbaaDoor
open Go.RowKit
set_option linter.unusedVariables false

/-- Is a backslash ahead of place k? -/
def pv (s : Bs) (k : Nat) : Bool := k != 0 && s[k - 1]? == some 92
theorem pv_zero (s : Bs) : pv s 0 = false := rfl
theorem pv_next {s : Bs} {k : Nat} {c : UInt8} (h : s[k]? = some c) : pv s (k + 1) = (c == 92) := by
  unfold pv
  rw [Nat.add_sub_cancel, h]; simp
theorem int_beq (a b : Int) (h : a = b) : (a == b) = true := by simp [h]
set_option maxRecDepth 100000 in
set_option maxHeartbeats 4000000 in
theorem remark_any (s : ByteArray) (m : Int) (w : World) (hs : s.size ≤ 1000000) (hm : w.cell? ⟨0, 0, none⟩ = some (.int .i64 m)) :
    Calls Tryd.prog 23 #[.string s] w fun e w' => e = .returned (.string ⟨(cmt s.data.toList).toArray⟩) ∧ Below w.heap.size w w' := by
  obtain ⟨C, hC⟩ : ∃ C, cutR false s.data.toList = C := ⟨_, rfl⟩
  have hcr : cmt s.data.toList = rep C := by rw [← hC]; exact cmt_rep _ _ (Nat.le_refl _)
  rw [hcr]
  have HC := Lib.hid hC
  have hsI : (s.size : Int) ≤ 1000000 := by omega
  have hfin : ∀ u : ByteArray, u.size ≤ s.size → u.data.toList = C → Calls Tryd.prog 45 #[.string u, .string ⟨#[92, 35]⟩, .string ⟨#[35]⟩] w fun e w' => e = .returned (.string ⟨(rep C).toArray⟩) ∧ Below w.heap.size w w' := by
    intro u hu hul
    have hcb := Lib.countB_le ⟨#[92, 35]⟩ (by decide) u.size u (Nat.le_refl _)
    have := Tryd.strings_ReplaceAll u ⟨#[92, 35]⟩ ⟨#[35]⟩ m w (by omega) hm (by decide) (by show u.size + Lib.countB u ⟨#[92, 35]⟩ * 1 ≤ _; omega)
    rw [show Lib.replaceAll u.data.toList (⟨#[92, 35]⟩ : ByteArray).data.toList (⟨#[35]⟩ : ByteArray).data.toList = rep C by rw [← hul]; exact replaceAll_rep _] at this
    exact this
  have HF := Lib.hid hfin
  clear hC hcr hfin hm
  go_enter Tryd.func23, Tryd.ntmps23
  go_wp2_with fail
  go_loopw [0, 6] (fun x i wx => ∃ k : Nat, k ≤ s.size ∧ x = .string s ∧ i = .int .i64 k ∧ wx = w ∧ Hid (s.data.toList.take k ++ cutR (pv s.data.toList k) (s.data.toList.drop k) = C)) (fun _ i _ => s.size - (intOf i).toNat)
  case atStart => exact ⟨0, by omega, rfl, rfl, rfl, HC.out⟩
  case round =>
    obtain ⟨k, hk, rfl, rfl, rfl, HA⟩ := hrel
    by_cases hlt : k < s.size
    · have hltd : decide ((k : Int) < (s.size : Int)) = true := decide_eq_true (by omega)
      have hltI : (k : Int) < (s.size : Int) := by omega
      have hk0 : (0 : Int) ≤ (k : Int) := by omega
      have hd := drop_one hlt
      have hat := Lib.data_getElem? s k hlt
      obtain ⟨c, hc⟩ : ∃ c, s[k]'hlt = c := ⟨_, rfl⟩
      rw [hc] at hd hat
      have h35 := byte_eq c 35
      rw [show ((35 : UInt8).toNat : Int) = 35 from rfl] at h35
      have htk : s.data.toList.take (k + 1) = s.data.toList.take k ++ [c] := by rw [List.take_add_one, hat]; rfl
      have hHA := HA.out
      rw [hd, cutR] at hHA
      have HN : Hid (¬ (c = 35 ∧ pv s.data.toList k = false) → s.data.toList.take (k + 1) ++ cutR (pv s.data.toList (k + 1)) (s.data.toList.drop (k + 1)) = C) := fun h => by
        rw [if_neg h] at hHA
        rw [htk, pv_next hat, ← hHA]; simp
      by_cases hc35 : c = 35
      · have g1 : ((c.toNat : Int) == 35) = true := by rw [h35, hc35]; rfl
        have HX : Hid (pv s.data.toList k = false → Calls Tryd.prog 45 #[.string (s.extract 0 k), .string ⟨#[92, 35]⟩, .string ⟨#[35]⟩] wr fun e w' => e = .returned (.string ⟨(rep C).toArray⟩) ∧ Below wr.heap.size wr w') := fun h => by
          rw [if_pos ⟨hc35, h⟩, List.append_nil] at hHA
          exact HF.out _ (by simp; omega) (by rw [Lib.extract_from_zero]; exact hHA)
        obtain ⟨U, hU⟩ : ∃ U, s.extract 0 k = U := ⟨_, rfl⟩
        rw [hU] at HX
        by_cases hk0' : k = 0
        · subst hk0'
          have HX2 := Lib.hid (HX.out rfl)
          rw [← hU, show s.extract 0 0 = ByteArray.empty from ba_ext (by simp)] at HX2
          clear h35 htk hat hHA hd HN hc35 HX
          go_wp2_with (go_at_call 45; refine HX2.out.mono ?_; rintro e w1 ⟨rfl, h1⟩; have HB := Lib.hid h1; clear h1; simp only [])
          go_ret
          exact ⟨rfl, HB.out⟩
        · obtain ⟨j, rfl⟩ : ∃ j, k = j + 1 := ⟨k - 1, by omega⟩
          have gk : ((j : Int) + 1 == 0) = false := by simp; omega
          have hjl : j < s.size := by omega
          have hjI : (j : Int) < (s.size : Int) := by omega
          have hj0 : (0 : Int) ≤ (j : Int) := by omega
          have hb1 : IntKind.i64.wrap (((j + 1 : Nat) : Int) - 1) = (j : Int) := by rw [IntWalk.i64_in _ (by omega)]; omega
          have hb2 : IntKind.i64.wrap ((j : Int) + 1 - 1) = (j : Int) := by rw [IntWalk.i64_in _ (by omega)]; omega
          have hjat := Lib.data_getElem? s j hjl
          obtain ⟨d, hdd⟩ : ∃ d, s[j]'hjl = d := ⟨_, rfl⟩
          rw [hdd] at hjat
          have hpv := pv_next hjat
          have h92 := byte_eq d 92
          rw [show ((92 : UInt8).toNat : Int) = 92 from rfl] at h92
          rw [hpv] at HX HN
          cases hd92 : (d == 92) with
          | true =>
            rw [hd92] at h92
            have HNX := Lib.hid (HN.out (by rw [hd92]; simp))
            clear h35 htk hat hHA hd HN hc35 HX hpv hd92 hjat hU
            go_wp2_with fail
            go_roundw
            case measure => simp [intOf]; omega
            case rel => exact ⟨j + 1 + 1, by omega, rfl, by go_num, by simp, HNX.out⟩
          | false =>
            rw [hd92] at h92
            have HX2 := Lib.hid (HX.out hd92)
            clear h35 htk hat hHA hd HN hc35 HX hpv hd92 hjat
            go_wp2_with (go_at_call 45; refine HX2.out.mono ?_; rintro e w1 ⟨rfl, h1⟩; have HB := Lib.hid h1; clear h1; simp only [])
            go_ret
            exact ⟨rfl, HB.out⟩
      · have g1 : ((c.toNat : Int) == 35) = false := by rw [h35]; simpa using hc35
        have HNX := Lib.hid (HN.out (fun e => hc35 e.1))
        clear h35 htk hat hHA hd HN hc35
        go_wp2_with fail
        go_roundw
        case measure => simp [intOf]; omega
        case rel => exact ⟨k + 1, by omega, rfl, by go_num, by simp, HNX.out⟩
    · obtain rfl : k = s.size := by omega
      have hltd : decide ((s.size : Int) < (s.size : Int)) = false := decide_eq_false (by omega)
      have HX := Lib.hid (HF.out s (Nat.le_refl _) (by
        have := HA.out
        rw [List.drop_eq_nil_of_le (by rw [dl]; exact Nat.le_refl _), List.take_of_length_le (by rw [dl]; exact Nat.le_refl _)] at this
        rw [← this, cutR, List.append_nil]))
      go_wp2_with (go_at_call 45; refine HX.out.mono ?_; rintro e w1 ⟨rfl, h1⟩; have HB := Lib.hid h1; clear h1; simp only [])
      go_ret
      exact ⟨rfl, HB.out⟩
theorem num_any (n : Int) (w : World) : Calls Tryd.prog 9 #[.int .i64 n] w fun e w' => e = .returned (.int .i64 n) ∧ w' = w := by
  go_enter Tryd.func9, Tryd.ntmps9
  go_wp2_with fail
  go_ret
  exact ⟨rfl, rfl⟩
/-- A row of strings that has just been laid. -/
theorem row_txt (w : World) (l : List ByteArray) : Txt (w.alloc (.cells (l.map Value.string).toArray 9)) (.slice (some ⟨w.heap.size, 0, none⟩) l.length l.length) l := by
  refine ⟨_, _, rfl, fun i hi => ⟨w.heap.size, 0, rfl, by simp, ?_⟩⟩
  rw [Nat.zero_add]
  simp only [World.cell?, heap_alloc_new w]
  simp [hi]
def TxtR (w0 : World) (l : List Bs) (n : Nat) (e : Ending) (w' : World) : Prop := ∃ v L, e = .returned v ∧ Txt w' v L ∧ (∃ a, v = .slice a L.length L.length) ∧ L.map (·.data.toList) = l ∧ L.length ≤ n ∧ Below w0.heap.size w0 w'
set_option maxRecDepth 100000 in
set_option maxHeartbeats 4000000 in
theorem phys_any (s : ByteArray) (m : Int) (w : World) (hs : s.size ≤ 1000000) (hm : w.cell? ⟨0, 0, none⟩ = some (.int .i64 m)) :
    Calls Tryd.prog 16 #[.string s] w (TxtR w (phys s.data.toList) (s.size + 1)) := by
  by_cases h0 : s.data.toList = []
  · have h1 := isE_of h0
    have HE : Hid (TxtR w (phys s.data.toList) (s.size + 1) (.returned (.slice none 0 0)) w) := by
      refine ⟨_, [], rfl, ⟨none, 0, rfl, fun i hi => absurd hi (by simp)⟩, ⟨none, rfl⟩, ?_, Nat.zero_le _, Below.refl _ _⟩
      rw [h0]; rfl
    clear h0 hm
    go_enter Tryd.func16, Tryd.ntmps16
    go_wp2_with fail
    go_ret
    exact HE.out
  · have h1 := isE_ne h0
    have hp := phys_trim s.data.toList h0
    have hts := Tryd.strings_TrimSuffix s ⟨#[10]⟩ w (by omega)
    obtain ⟨U, hU⟩ : ∃ U : ByteArray, (⟨(Lib.trimSuffix s.data.toList [10]).toArray⟩ : ByteArray) = U := ⟨_, rfl⟩
    have hUl : Lib.trimSuffix s.data.toList [10] = U.data.toList := by rw [← hU]
    have hts2 : Calls Tryd.prog 35 #[.string s, .string ⟨#[10]⟩] w fun e w' => e = .returned (.string U) ∧ w' = w := by rw [← hU]; exact hts
    have hUs : U.size ≤ s.size := by
      rw [← dl, ← hUl, ← dl]
      unfold Lib.trimSuffix
      split
      · rw [List.length_take]; omega
      · exact Nat.le_refl _
    rw [hUl] at hp
    have hsp := Tryd.strings_Split U ⟨#[10]⟩ m w (by omega) hm (by decide)
    obtain ⟨L, hL⟩ : ∃ L, Lib.splitB ⟨#[10]⟩ 0 (Lib.countB U ⟨#[10]⟩) U = L := ⟨_, rfl⟩
    have hLl : L.length = Lib.countB U ⟨#[10]⟩ + 1 := by rw [← hL]; exact Lib.splitB_all ⟨#[10]⟩ (by decide) 0 _ U rfl
    have hcl := Lib.countB_le ⟨#[10]⟩ (by decide) U.size U (Nat.le_refl _)
    rw [hL, ← hLl] at hsp
    have HSP := Lib.hid hsp
    have HTS := Lib.hid hts2
    have HE : Hid (TxtR w (phys s.data.toList) (s.size + 1) (.returned (.slice (some ⟨w.heap.size, 0, none⟩) L.length L.length)) (w.alloc (.cells (L.map Value.string).toArray 9))) := by
      refine ⟨_, L, rfl, row_txt w L, ⟨_, rfl⟩, ?_, by omega, (Below.refl _ _).alloc (Nat.le_refl _) _⟩
      rw [← hp, ← hL, Lib.splitB_data]
    clear hp hts hts2 hsp hL hLl hcl hU hUl hm h0
    go_enter Tryd.func16, Tryd.ntmps16
    go_wp2_with (first
      | (go_at_call 35; refine HTS.out.mono ?_; rintro e w1 ⟨rfl, h1⟩; obtain rfl := h1.symm; simp only [])
      | (go_at_call 34; refine HSP.out.mono ?_; rintro e w1 ⟨rfl, h2⟩; have H2 := Lib.hid h2; clear h2; simp only []))
    go_ret
    rw [H2.out]
    exact HE.out
end Go.Proofs.YtcjfpkfbdcmlbaaDoor
