import Derived.Test.YtafbheplaheohaaCF
import Derived.Test.YtafbheplaheohaaCH
namespace Go.Proofs.Ytafbheplaheohaa
open Go.RowKit
set_option linter.unusedVariables false

def SayP (w : World) (e : Ending) (w' : World) : Prop := e = .returned (.bool true) ∧ Below w.heap.size w w'
def LowTo (s : ByteArray) (k : Nat) : Prop := ∀ j, (h : j < k) → ∀ c, s.data.toList[j]? = some c → 97 ≤ c ∧ c ≤ 122
theorem LowTo.all {s : ByteArray} (h : LowTo s s.size) : Low s.data.toList := fun c hc => by
  obtain ⟨j, hj, e⟩ := List.getElem_of_mem hc
  exact h j (by rw [← dl]; exact hj) c (by rw [← e]; exact List.getElem?_eq_getElem hj)
theorem LowTo.succ {s : ByteArray} {k : Nat} (h : LowTo s k) {c : UInt8} (hk : s.data.toList[k]? = some c) (hc : 97 ≤ c ∧ c ≤ 122) : LowTo s (k + 1) := fun j hj d hd => by
  by_cases e : j = k
  · subst e; rw [hk] at hd; cases hd; exact hc
  · exact h j (by omega) d hd
set_option maxRecDepth 100000 in
set_option maxHeartbeats 8000000 in
theorem back_walk (c : UInt8) (s : ByteArray) (w : World) (hs : s.size ≤ maxLen) : Calls Try.prog 6 #[.int .u8 c.toNat, .string s] w (SayP w) := by
  obtain ⟨Q, hQ⟩ : ∃ Q, SayP w = Q := ⟨_, rfl⟩
  rw [hQ]
  have HQ := Lib.hid hQ
  have HA := Lib.hid (alive_any w)
  clear hQ
  have hc0 := byte_eq c 0
  rw [show ((0 : UInt8).toNat : Int) = 0 from rfl] at hc0
  by_cases h0 : c = 0
  · have hz : ((c.toNat : Int) == 0) = true := by rw [hc0, h0]; rfl
    clear hc0
    go_enter Try.func6, Try.ntmps6
    go_wp2_with (go_at_call 12; refine HA.out.mono ?_; rintro e w1 ⟨rfl, h1⟩; have H1 := Lib.hid h1; clear h1; simp only [])
    rw [← HQ.out]; exact ⟨rfl, H1.out⟩
  have hz : ((c.toNat : Int) == 0) = false := by rw [hc0]; simpa using h0
  clear hc0
  by_cases hl : 100 < s.size
  · have hlI : (100 : Int) < (s.size : Int) := by omega
    have hld : decide ((100 : Int) < (s.size : Int)) = true := decide_eq_true hlI
    go_enter Try.func6, Try.ntmps6
    go_wp2_with (go_at_call 12; refine HA.out.mono ?_; rintro e w1 ⟨rfl, h1⟩; have H1 := Lib.hid h1; clear h1; simp only [])
    rw [← HQ.out]; exact ⟨rfl, H1.out⟩
  have hlI : ¬ (100 : Int) < (s.size : Int) := by omega
  have hld : decide ((100 : Int) < (s.size : Int)) = false := decide_eq_false hlI
  go_enter Try.func6, Try.ntmps6
  go_wp2_with (go_at_call 12; refine HA.out.mono ?_; rintro e w1 ⟨rfl, h1⟩; have H1 := Lib.hid h1; clear h1; simp only [])
  go_loopw [6] (fun i wx => ∃ k : Nat, k ≤ s.size ∧ i = .int .i64 k ∧ wx = w1 ∧ Hid (LowTo s k)) (fun i _ => s.size - (intOf i).toNat)
  case atStart => exact ⟨0, Nat.zero_le _, rfl, rfl, fun j hj => absurd hj (by omega)⟩
  case round =>
    obtain ⟨k, hk, rfl, rfl, HL⟩ := hrel
    by_cases hlt : k < s.size
    · have hltI : (k : Int) < (s.size : Int) := by omega
      have hltd : decide ((k : Int) < (s.size : Int)) = true := decide_eq_true hltI
      have hk0 : (0 : Int) ≤ (k : Int) := by omega
      have hat := data_get s k hlt
      obtain ⟨d, hd⟩ : ∃ d, s[k]'hlt = d := ⟨_, rfl⟩
      rw [hd] at hat
      have HAT := Lib.hid hat
      clear hat
      have h1 := ble 97 d
      have h2 := ble d 122
      rw [show ((97 : UInt8).toNat : Int) = 97 from rfl] at h1
      rw [show ((122 : UInt8).toNat : Int) = 122 from rfl] at h2
      obtain ⟨z1, hz1⟩ : ∃ z, decide ((97 : UInt8) ≤ d) = z := ⟨_, rfl⟩
      obtain ⟨z2, hz2⟩ : ∃ z, decide (d ≤ (122 : UInt8)) = z := ⟨_, rfl⟩
      rw [hz1] at h1
      rw [hz2] at h2
      have HZ1 := Lib.hid hz1
      have HZ2 := Lib.hid hz2
      clear hz1 hz2
      cases z1 <;> cases z2
      all_goals go_wp2_with fail
      all_goals first
        | (rw [← HQ.out]; exact ⟨rfl, H1.out⟩)
        | (go_roundw
           case measure => simp [intOf]; omega
           case rel => exact ⟨k + 1, by omega, by go_num, trivial, HL.out.succ HAT.out ⟨of_decide_eq_true HZ1.out, of_decide_eq_true HZ2.out⟩⟩)
    · obtain rfl : k = s.size := by omega
      have hltd : decide ((s.size : Int) < (s.size : Int)) = false := decide_eq_false (by omega)
      have HLOW := Lib.hid HL.out.all
      have hcv := conv_one c wr
      have hsz : s.size ≤ 100 := by omega
      have HW1 : Hid (Below w.heap.size w wr) := H1.out
      have h10 := byte_eq c 10
      rw [show ((10 : UInt8).toNat : Int) = 10 from rfl] at h10
      by_cases e10 : c = 10
      · have hz10 : ((c.toNat : Int) == 10) = true := by rw [h10, e10]; rfl
        by_cases hse : s.data.toList = []
        · have hE : s.toList.isEmpty = true := isE_of hse
          have HT : Hid (∀ (S : ByteArray) (w' : World), S.data.toList = 92 :: c :: s.data.toList → Calls Try.prog 13 #[.string S] w' fun e w'' => ∃ a c', e = .returned (.tuple #[.slice a 0 c', .int .i64 0]) ∧ Below w'.heap.size w' w'') := fun S w' hS => by
            have h : tokensF S.data.toList = .ok [] := by rw [hS, e10, back_line HLOW.out (by rw [dl]; omega), if_pos hse]
            refine (Tokens_ok S w' (by have := congrArg List.length hS; rw [dl] at this; simp at this; omega) h).mono ?_
            rintro e w'' ⟨a, c', rfl, _, h2⟩
            exact ⟨a, c', rfl, h2⟩
          clear h10 hse e10
          go_wp2_with (first
            | (go_at_call 15; refine (num_any _ _).mono ?_; rintro e w7 ⟨rfl, h7⟩; obtain rfl := h7.symm; simp only [])
            | (go_at_call 13; refine (HT.out _ _ (by simp)).mono ?_; rintro e w5 ⟨a, c', rfl, h2⟩; have H2 := Lib.hid h2; clear h2; simp only []))
          rw [← HQ.out]
          exact ⟨rfl, HW1.out.trans (((Below.refl _ _).alloc (Nat.le_refl _) _).trans (H2.out.mono (by rw [size_alloc]; omega)) |>.mono HW1.out.size)⟩
        · have hE : s.toList.isEmpty = false := isE_ne hse
          have HT : Hid (∀ (S : ByteArray) (w' : World), S.data.toList = 92 :: c :: s.data.toList → Calls Try.prog 13 #[.string S] w' fun e w'' => ∃ b off c' wa wc F, e = .returned (.tuple #[.slice (some ⟨b, off, none⟩) 1 c', .int .i64 0]) ∧ b < w''.heap.size ∧ w''.cell? ⟨b, off + 2, none⟩ = some (.slice wa 1 wc) ∧ Wd w'' F (.slice wa 1 wc) [txt 1 s.data.toList] ∧ Below w'.heap.size w' w'') := fun S w' hS => by
            have h : tokensF S.data.toList = .ok [.word [txt 1 s.data.toList]] := by rw [hS, e10, back_line HLOW.out (by rw [dl]; omega), if_neg hse]
            exact Tokens_word S w' (by have := congrArg List.length hS; rw [dl] at this; simp at this; omega) h
          clear h10 hse e10
          go_wp2_with (first
            | (go_at_call 15; refine (num_any _ _).mono ?_; rintro e w7 ⟨rfl, h7⟩; obtain rfl := h7.symm; simp only [])
            | (go_at_call 18; refine HSP.out.mono ?_; rintro e w7 ⟨rfl, h7⟩; have H7 := Lib.hid h7; clear h7; simp only [])
            | (go_at_call 13
               refine (HT.out _ _ (by simp)).mono ?_
               rintro e w5 ⟨b, off, c', wa, wc, F, rfl, hb, q2, hwd, h2⟩
               have H2 := Lib.hid h2
               have HSP := Lib.hid (same_txt 1 s hwd)
               have ad0 := addn b off 0
               rw [Nat.add_zero] at ad0
               clear h2 hwd
               simp only []))
          rw [← HQ.out]
          have hk := (((Below.refl wr.heap.size wr).alloc (Nat.le_refl _) _).trans (H2.out.mono (by rw [size_alloc]; omega)))
          exact ⟨rfl, HW1.out.trans ((hk.trans (H7.out.mono hk.size)).mono HW1.out.size)⟩
      · have hz10 : ((c.toNat : Int) == 10) = false := by rw [h10]; simpa using e10
        by_cases hse : s.data.toList = []
        · have hE : s.toList.isEmpty = true := isE_of hse
          have HT : Hid (∀ (S : ByteArray) (w' : World), S.data.toList = 92 :: c :: s.data.toList → Calls Try.prog 13 #[.string S] w' fun e w'' => ∃ b off c' wa wc F, e = .returned (.tuple #[.slice (some ⟨b, off, none⟩) 1 c', .int .i64 0]) ∧ b < w''.heap.size ∧ w''.cell? ⟨b, off + 2, none⟩ = some (.slice wa 1 wc) ∧ Wd w'' F (.slice wa 1 wc) [txt 2 [c]] ∧ Below w'.heap.size w' w'') := fun S w' hS => by
            have h : tokensF S.data.toList = .ok [.word [txt 2 [c]]] := by rw [hS, back_byte h0 e10 HLOW.out (by rw [dl]; omega), if_pos hse]
            exact Tokens_word S w' (by have := congrArg List.length hS; rw [dl] at this; simp at this; omega) h
          clear h10 hse
          go_wp2_with (first
            | (go_at_call 15; refine (num_any _ _).mono ?_; rintro e w7 ⟨rfl, h7⟩; obtain rfl := h7.symm; simp only [])
            | (go_at_call 18; refine HSP.out.mono ?_; rintro e w7 ⟨rfl, h7⟩; have H7 := Lib.hid h7; clear h7; simp only [])
            | (go_at_call 13
               refine (HT.out _ _ (by simp)).mono ?_
               rintro e w5 ⟨b, off, c', wa, wc, F, rfl, hb, q2, hwd, h2⟩
               have H2 := Lib.hid h2
               have hcv5 := conv_one c w5
               have hb5 := (Below.refl w5.heap.size w5).alloc (Nat.le_refl _) (.cells #[.int .u8 c.toNat] 5)
               have HSP := Lib.hid (same_txt 2 ⟨#[c]⟩ (hwd.under hb5))
               rw [size_alloc] at HSP
               have ad0 := addn b off 0
               rw [Nat.add_zero] at ad0
               clear h2 hwd hb5
               simp only []))
          rw [← HQ.out]
          have hk := (((Below.refl wr.heap.size wr).alloc (Nat.le_refl _) _).trans (H2.out.mono (by rw [size_alloc]; omega)))
          exact ⟨rfl, HW1.out.trans ((hk.trans (((Below.refl w5.heap.size w5).alloc (Nat.le_refl _) _ |>.trans (H7.out.mono (by first | (rw [size_alloc]; omega) | omega))).mono hk.size)).mono HW1.out.size)⟩
        · have hE : s.toList.isEmpty = false := isE_ne hse
          have HT : Hid (∀ (S : ByteArray) (w' : World), S.data.toList = 92 :: c :: s.data.toList → Calls Try.prog 13 #[.string S] w' fun e w'' => ∃ b off c' wa wc F, e = .returned (.tuple #[.slice (some ⟨b, off, none⟩) 1 c', .int .i64 0]) ∧ b < w''.heap.size ∧ w''.cell? ⟨b, off + 2, none⟩ = some (.slice wa 2 wc) ∧ Wd w'' F (.slice wa 2 wc) [txt 2 [c], txt 1 s.data.toList] ∧ Below w'.heap.size w' w'') := fun S w' hS => by
            have h : tokensF S.data.toList = .ok [.word [txt 2 [c], txt 1 s.data.toList]] := by rw [hS, back_byte h0 e10 HLOW.out (by rw [dl]; omega), if_neg hse]
            exact Tokens_word S w' (by have := congrArg List.length hS; rw [dl] at this; simp at this; omega) h
          clear h10 hse
          go_wp2_with (first
            | (go_at_call 15; refine (num_any _ _).mono ?_; rintro e w7 ⟨rfl, h7⟩; obtain rfl := h7.symm; simp only [])
            | (go_at_call 18; refine HSP.out.mono ?_; rintro e w7 ⟨rfl, h7⟩; have H7 := Lib.hid h7; clear h7; simp only [])
            | (at_builtin; refine wpList_run_append _ rfl _ _ 32 32 rfl _ _ rfl rfl r8 ?_)
            | (go_at_call 13
               refine (HT.out _ _ (by simp)).mono ?_
               rintro e w5 ⟨b, off, c', wa, wc, F, rfl, hb, q2, hwd, h2⟩
               have H2 := Lib.hid h2
               have hcv5 := conv_one c w5
               have hb5 := (Below.refl w5.heap.size w5).alloc (Nat.le_refl _) (.cells #[.int .u8 c.toNat] 5)
               obtain ⟨a8, c8, w8, r8, hw8, hb8⟩ := two_row (w5.alloc (.cells #[.int .u8 c.toNat] 5)) 2 ⟨#[c]⟩ 1 s
               have hb58 := hb5.trans (hb8.mono hb5.size)
               have q2' := cell_under hb58 hb q2
               have HSP := Lib.hid (Same_eq (by rw [wsz_two]; decide) (hwd.under hb58) hw8)
               have HB58 := Lib.hid hb58
               rw [size_alloc] at r8
               have ad0 := addn b off 0
               rw [Nat.add_zero] at ad0
               clear h2 hwd hb5 hb8 hb58 hw8
               simp only []))
          rw [← HQ.out]
          have hk := (((Below.refl wr.heap.size wr).alloc (Nat.le_refl _) _).trans (H2.out.mono (by rw [size_alloc]; omega)))
          exact ⟨rfl, HW1.out.trans ((hk.trans ((HB58.out.trans (H7.out.mono HB58.out.size)).mono hk.size)).mono HW1.out.size)⟩
theorem bounds8 {z : Int} (h : (Lit.int .u8 z).wf = true) : ∃ c : UInt8, (c.toNat : Int) = z := by
  simp [Lit.wf] at h
  have h1 : IntKind.u8.min = 0 := by decide
  have h2 : IntKind.u8.max = 255 := by decide
  refine ⟨UInt8.ofNat z.toNat, ?_⟩
  rw [UInt8.toNat_ofNat']
  omega
theorem back_law (z : Int) (s : ByteArray) (w : World) (hz : (Lit.int .u8 z).wf = true) (hs : s.size ≤ maxLen) : Calls Try.prog 6 #[.int .u8 z, .string s] w fun e w' => e = .returned (.bool true) ∧ Below w.heap.size w w' := by
  obtain ⟨c, rfl⟩ := bounds8 hz
  exact back_walk c s w hs
end Go.Proofs.Ytafbheplaheohaa
