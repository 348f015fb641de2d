import Derived.Test.YtafbheplaheohaaCI
import Derived.Test.YtafbheplaheohaaME
namespace Go.Proofs.Ytafbheplaheohaa
open Go.RowKit
set_option linter.unusedVariables false

theorem balF_app : ∀ (s t : Bz) (o : Nat), balF o (s ++ t) = (balF o s).bind fun m => balF m t
  | [], t, o => rfl
  | c :: s, t, o => by
    rw [List.cons_append, balF_cons, balF_cons]
    split
    · exact balF_app s t _
    · split
      · cases o with
        | zero => rfl
        | succ o => exact balF_app s t _
      · exact balF_app s t _
/-- What has been seen of a script. -/
structure Scr (s : ByteArray) (k o : Nat) : Prop where
  bal : balF 0 (s.data.toList.take k) = some o
  le : o ≤ k
  bytes : ∀ j, j < k → ∀ c, s.data.toList[j]? = some c → c ≠ 39 ∧ c ≠ 34 ∧ c ≠ 92 ∧ c ≠ 0 ∧ c ≠ 96
theorem Scr.nil (s : ByteArray) : Scr s 0 0 := ⟨rfl, Nat.le_refl _, fun j hj => absurd hj (by omega)⟩
theorem Scr.bt {s : ByteArray} {k o : Nat} (h : Scr s k o) {d : UInt8} (hd : s.data.toList[k]? = some d) (hq : d ≠ 39 ∧ d ≠ 34 ∧ d ≠ 92 ∧ d ≠ 0 ∧ d ≠ 96) : ∀ j, j < k + 1 → ∀ c, s.data.toList[j]? = some c → c ≠ 39 ∧ c ≠ 34 ∧ c ≠ 92 ∧ c ≠ 0 ∧ c ≠ 96 := fun j hj c hc => by
  by_cases e : j = k
  · subst e; rw [hd] at hc; cases hc; exact hq
  · exact h.bytes j (by omega) c hc
theorem Scr.take {s : ByteArray} {k o : Nat} (h : Scr s k o) {d : UInt8} (hd : s.data.toList[k]? = some d) : balF 0 (s.data.toList.take (k + 1)) = balF o [d] := by
  rw [List.take_add_one, hd, balF_app, h.bal]; rfl
theorem Scr.up {s : ByteArray} {k o : Nat} (h : Scr s k o) (hd : s.data.toList[k]? = some 40) : Scr s (k + 1) (o + 1) := ⟨by rw [h.take hd]; rfl, by have := h.le; omega, h.bt hd (by decide)⟩
theorem Scr.down {s : ByteArray} {k o : Nat} (h : Scr s k (o + 1)) (hd : s.data.toList[k]? = some 41) : Scr s (k + 1) o := ⟨by rw [h.take hd]; rfl, by have := h.le; omega, h.bt hd (by decide)⟩
theorem Scr.on {s : ByteArray} {k o : Nat} (h : Scr s k o) {d : UInt8} (hd : s.data.toList[k]? = some d) (h40 : d ≠ 40) (h41 : d ≠ 41) (hq : d ≠ 39 ∧ d ≠ 34 ∧ d ≠ 92 ∧ d ≠ 0 ∧ d ≠ 96) : Scr s (k + 1) o := ⟨by rw [h.take hd, balF_cons, if_neg h40, if_neg h41]; rfl, by have := h.le; omega, h.bt hd hq⟩
theorem Scr.ok {s : ByteArray} (h : Scr s s.size 0) {ck : Bool} (hh : ck = false → s.data.toList.head? ≠ some 40) : ScriptOk ck s.data.toList := by
  refine ⟨fun c hc => ?_, ?_, hh⟩
  · obtain ⟨j, hj, e⟩ := List.getElem_of_mem hc
    exact h.bytes j (by rw [← dl]; exact hj) c (by rw [← e]; exact List.getElem?_eq_getElem hj)
  · have := h.bal
    rwa [List.take_of_length_le (by rw [dl]; exact Nat.le_refl _)] at this
theorem same_pt {w w' : World} {F : Nat → Prop} {wa : Option Addr} {wc : Nat} (k : Nat) (ki : Int) (hk : ki = (k : Int)) (t : ByteArray) (q : Bool) (h : Wd w F (.slice wa 1 wc) [.mk k t.data.toList [] [] [] q])
    (hb : Below (w.heap.size + 1) (w.alloc (.cells #[.int .i64 ki, .string t, .string ⟨#[]⟩, .string ⟨#[]⟩, .slice none 0 0, .bool q] 39)) w') :
    Calls Try.prog 18 #[.slice wa 1 wc, .slice (some ⟨w.heap.size, 0, none⟩) 1 1] w' fun e w'' => e = .returned (.bool true) ∧ Below (w.heap.size + 1) (w.alloc (.cells #[.int .i64 ki, .string t, .string ⟨#[]⟩, .string ⟨#[]⟩, .slice none 0 0, .bool q] 39)) w'' := by
  have hbe := (Below.refl w.heap.size w).alloc (Nat.le_refl _) (.cells #[.int .i64 ki, .string t, .string ⟨#[]⟩, .string ⟨#[]⟩, .slice none 0 0, .bool q] 39)
  have hb2 : Below w.heap.size w w' := hbe.trans (hb.mono (by omega))
  have hnew := heap_alloc_new w (.cells #[.int .i64 ki, .string t, .string ⟨#[]⟩, .string ⟨#[]⟩, .slice none 0 0, .bool q] 39)
  refine (Same_eq (m := [.mk k t.data.toList [] [] [] q]) (G := fun _ => True) (by simp [wsz, psz]) (h.under hb2) (Wd.one (pt := ⟨ki, t, ⟨#[]⟩, ⟨#[]⟩, .slice none 0 0, q⟩) trivial ((hb.block _ (by omega)).trans hnew) ⟨hk, rfl, rfl, rfl, rfl⟩ (.nil 0))).mono ?_
  rintro e w'' ⟨rfl, h⟩
  exact ⟨rfl, hb.trans (h.mono (by have := hb.size; rw [size_alloc] at this; omega))⟩
theorem wsz_prt (k : Nat) (t : Bz) (q : Bool) : wsz [.mk k t [] [] [] q] = 1 := by simp [wsz, psz]
set_option maxRecDepth 100000 in
set_option maxHeartbeats 8000000 in
theorem scripts_tt (s : ByteArray) (w : World) (hs : s.size ≤ maxLen) : Calls Try.prog 11 #[.string s, .bool true, .bool true] w (SayPq w) := by
  obtain ⟨Q, hQ⟩ : ∃ Q, SayPq w = Q := ⟨_, rfl⟩
  rw [hQ]
  have HQ := Lib.hid hQ
  have HA := Lib.hid (alive_any w)
  clear hQ
  by_cases hl : 200 < s.size
  · have hlI : (200 : Int) < (s.size : Int) := by omega
    have hld : decide ((200 : Int) < (s.size : Int)) = true := decide_eq_true hlI
    go_enter Try.func11, Try.ntmps11
    go_wp2_with (go_at_call 12; refine HA.out.mono ?_; rintro e w1 ⟨rfl, h1⟩; have H1 := Lib.hid h1; clear h1; simp only [])
    rw [← HQ.out]; exact ⟨rfl, H1.out⟩
  have hlI : ¬ (200 : Int) < (s.size : Int) := by omega
  have hld : decide ((200 : Int) < (s.size : Int)) = false := decide_eq_false hlI
  have hsl : s.size ≤ 200 := by omega
  go_enter Try.func11, Try.ntmps11
  go_wp2_with (go_at_call 12; refine HA.out.mono ?_; rintro e w1 ⟨rfl, h1⟩; have H1 := Lib.hid h1; clear h1; simp only [])
  go_loopw [8, 9] (fun op i wx => ∃ k o : Nat, k ≤ s.size ∧ op = .int .i64 o ∧ i = .int .i64 k ∧ wx = w1 ∧ Hid (Scr s k o)) (fun op i _ => s.size - (intOf i).toNat)
  case atStart => exact ⟨0, 0, Nat.zero_le _, rfl, rfl, rfl, Scr.nil s⟩
  case round =>
    obtain ⟨k, o, hk, rfl, rfl, rfl, HL⟩ := hrel
    have hok := HL.out.le
    by_cases hlt : k < s.size
    · have hltI : (k : Int) < (s.size : Int) := by omega
      have hltd : decide ((k : Int) < (s.size : Int)) = true := decide_eq_true hltI
      have hk0 : (0 : Int) ≤ (k : Int) := by omega
      have hwu : IntKind.i64.wrap ((o : Int) + 1) = (o : Int) + 1 := IntWalk.i64_in _ (by omega)
      have hwd : IntKind.i64.wrap ((o : Int) - 1) = (o : Int) - 1 := IntWalk.i64_in _ (by omega)
      have hat := data_get s k hlt
      obtain ⟨d, hd⟩ : ∃ d, s[k]'hlt = d := ⟨_, rfl⟩
      rw [hd] at hat
      have HAT := Lib.hid hat
      clear hat
      have h39 := byte_eq d 39
      rw [show ((39 : UInt8).toNat : Int) = 39 from rfl] at h39
      have h34 := byte_eq d 34
      rw [show ((34 : UInt8).toNat : Int) = 34 from rfl] at h34
      have h92 := byte_eq d 92
      rw [show ((92 : UInt8).toNat : Int) = 92 from rfl] at h92
      have h0 := byte_eq d 0
      rw [show ((0 : UInt8).toNat : Int) = 0 from rfl] at h0
      have h96 := byte_eq d 96
      rw [show ((96 : UInt8).toNat : Int) = 96 from rfl] at h96
      have h40 := byte_eq d 40
      rw [show ((40 : UInt8).toNat : Int) = 40 from rfl] at h40
      have h41 := byte_eq d 41
      rw [show ((41 : UInt8).toNat : Int) = 41 from rfl] at h41
      by_cases e40 : d = 40
      · have HAT2 : Hid (s.data.toList[k]? = some 40) := by rw [Hid, HAT.out, e40]
        rw [show (d == 39) = false by rw [e40]; rfl] at h39
        rw [show (d == 34) = false by rw [e40]; rfl] at h34
        rw [show (d == 92) = false by rw [e40]; rfl] at h92
        rw [show (d == 0) = false by rw [e40]; rfl] at h0
        rw [show (d == 96) = false by rw [e40]; rfl] at h96
        rw [show (d == 40) = true by rw [e40]; rfl] at h40
        rw [show (d == 41) = false by rw [e40]; rfl] at h41
        have hop : decide ((o : Int) + 1 < 0) = false := decide_eq_false (by omega)
        clear e40
        go_wp2_with fail
        go_roundw
        case measure => simp [intOf]; omega
        case rel => exact ⟨k + 1, o + 1, by omega, by go_num, by go_num, trivial, HL.out.up HAT2.out⟩
      · by_cases e41 : d = 41
        · have HAT2 : Hid (s.data.toList[k]? = some 41) := by rw [Hid, HAT.out, e41]
          rw [show (d == 39) = false by rw [e41]; rfl] at h39
          rw [show (d == 34) = false by rw [e41]; rfl] at h34
          rw [show (d == 92) = false by rw [e41]; rfl] at h92
          rw [show (d == 0) = false by rw [e41]; rfl] at h0
          rw [show (d == 96) = false by rw [e41]; rfl] at h96
          rw [show (d == 40) = false by rw [e41]; rfl] at h40
          rw [show (d == 41) = true by rw [e41]; rfl] at h41
          clear e41 e40
          cases o with
          | zero =>
            have hop : decide (((0 : Nat) : Int) - 1 < 0) = true := decide_eq_true (by omega)
            go_wp2_with fail
            rw [← HQ.out]; exact ⟨rfl, H1.out⟩
          | succ o =>
            have hw2 : ((o + 1 : Nat) : Int) - 1 = (o : Int) := by omega
            have hop : decide ((o : Int) < 0) = false := decide_eq_false (by omega)
            rw [hw2] at hwd
            clear hw2
            go_wp2_with fail
            go_roundw
            case measure => simp [intOf]; omega
            case rel => exact ⟨k + 1, o, by omega, by go_num, by go_num, trivial, HL.out.down HAT2.out⟩
        · have hop : decide ((o : Int) < 0) = false := decide_eq_false (by omega)
          have HE40 := Lib.hid e40
          have HE41 := Lib.hid e41
          obtain ⟨z39, hz39⟩ : ∃ z, (d == 39) = z := ⟨_, rfl⟩
          rw [hz39] at h39
          have HZ39 := Lib.hid hz39
          clear hz39
          obtain ⟨z34, hz34⟩ : ∃ z, (d == 34) = z := ⟨_, rfl⟩
          rw [hz34] at h34
          have HZ34 := Lib.hid hz34
          clear hz34
          obtain ⟨z92, hz92⟩ : ∃ z, (d == 92) = z := ⟨_, rfl⟩
          rw [hz92] at h92
          have HZ92 := Lib.hid hz92
          clear hz92
          obtain ⟨z0, hz0⟩ : ∃ z, (d == 0) = z := ⟨_, rfl⟩
          rw [hz0] at h0
          have HZ0 := Lib.hid hz0
          clear hz0
          obtain ⟨z96, hz96⟩ : ∃ z, (d == 96) = z := ⟨_, rfl⟩
          rw [hz96] at h96
          have HZ96 := Lib.hid hz96
          clear hz96
          rw [beq_eq_false_iff_ne.2 e40] at h40
          rw [beq_eq_false_iff_ne.2 e41] at h41
          clear e40 e41
          go_wp2_with fail
          all_goals first
            | (rw [← HQ.out]; exact ⟨rfl, H1.out⟩)
            | (go_roundw
               case measure => simp [intOf]; omega
               case rel => exact ⟨k + 1, o, by omega, by go_num, by go_num, trivial, HL.out.on HAT.out HE40.out HE41.out ⟨(fun e => (by first | assumption | exact not_of_false (by assumption) : ¬ z39 = true) (by rw [← HZ39.out, e]; rfl)), (fun e => (by first | assumption | exact not_of_false (by assumption) : ¬ z34 = true) (by rw [← HZ34.out, e]; rfl)), (fun e => (by first | assumption | exact not_of_false (by assumption) : ¬ z92 = true) (by rw [← HZ92.out, e]; rfl)), (fun e => (by first | assumption | exact not_of_false (by assumption) : ¬ z0 = true) (by rw [← HZ0.out, e]; rfl)), (fun e => (by first | assumption | exact not_of_false (by assumption) : ¬ z96 = true) (by rw [← HZ96.out, e]; rfl))⟩⟩)
    · obtain rfl : k = s.size := by omega
      have hltd : decide ((s.size : Int) < (s.size : Int)) = false := decide_eq_false (by omega)
      by_cases ho : o = 0
      · subst ho
        have HH : Hid (true = false → s.data.toList.head? ≠ some 40) := fun e => by cases e
        have HSO := Lib.hid (HL.out.ok (ck := true) HH.out)
        have HSA := Lib.hid (script_all (ck := true) (quoted := true) HSO.out (by rw [dl]; exact hsl))
        have HW : Hid (∀ (S : ByteArray) (w' : World), S.data.toList = scriptB true true s.data.toList → Calls Try.prog 17 #[.string S] w' fun e w'' => ∃ wa wc F, e = .returned (.tuple #[.slice wa 1 wc, .int .i64 0]) ∧ Wd w'' F (.slice wa 1 wc) [.mk 4 s.data.toList [] [] [] true] ∧ Below w'.heap.size w' w'') := fun S w' hS => by
          refine (Word_ok S w' (l := [scriptP true true s.data.toList]) (by have := congrArg List.length hS; have h2 := scriptB_len true true s.data.toList; rw [dl] at this h2; omega) (by rw [hS]; exact HSA.out.1)).mono ?_
          rintro e w'' ⟨a, c, rfl, h1, h2⟩
          exact ⟨a, c, _, rfl, h1, h2⟩
        have HT : Hid (∀ (S : ByteArray) (w' : World), S.data.toList = scriptB true true s.data.toList ++ [59] → Calls Try.prog 13 #[.string S] w' fun e w'' => ∃ b off c wa wc F, e = .returned (.tuple #[.slice (some ⟨b, off, none⟩) 2 c, .int .i64 0]) ∧ b < w''.heap.size ∧ w''.cell? ⟨b, off + 2, none⟩ = some (.slice wa 1 wc) ∧ Wd w'' F (.slice wa 1 wc) [.mk 4 s.data.toList [] [] [] true] ∧ Below w'.heap.size w' w'') := fun S w' hS => by
          refine (Tokens_ok S w' (l := [.word [scriptP true true s.data.toList], .op [59]]) (by have := congrArg List.length hS; have h2 := scriptB_len true true s.data.toList; rw [List.length_append, dl] at this; rw [dl] at h2; simp at this; omega) (by rw [hS]; exact HSA.out.2)).mono ?_
          rintro e w' ⟨a, c, rfl, h1, h2⟩
          obtain ⟨-, b, off, kk, t, wa, wc, F, rfl, hb, q0, q1, q2, -, -, hw⟩ := h1.cells (i := 0) (by simp)
          simp only [List.getElem_cons_zero, tokW, Nat.zero_mul, Nat.add_zero] at q2 hw
          exact ⟨b, off, c, wa, wc, F, rfl, hb, q2, hw, h2⟩
        have hnb := heap_alloc_new wr (.cells #[.int .i64 5, .string s, .string ⟨#[]⟩, .string ⟨#[]⟩, .slice none 0 0, .bool true] 39)
        have hb0 := (Below.refl wr.heap.size wr).alloc (Nat.le_refl _) (.cells #[.int .i64 5, .string s, .string ⟨#[]⟩, .string ⟨#[]⟩, .slice none 0 0, .bool true] 39)
        have hnb' := heap_alloc_new wr (.cells #[.int .i64 4, .string s, .string ⟨#[]⟩, .string ⟨#[]⟩, .slice none 0 0, .bool true] 39)
        have hb0' := (Below.refl wr.heap.size wr).alloc (Nat.le_refl _) (.cells #[.int .i64 4, .string s, .string ⟨#[]⟩, .string ⟨#[]⟩, .slice none 0 0, .bool true] 39)
        have HNB := Lib.hid (And.intro hnb' hb0')
        have hfr : (wr.alloc (.cells #[.int .i64 5, .string s, .string ⟨#[]⟩, .string ⟨#[]⟩, .slice none 0 0, .bool true] 39)).frozen? ⟨wr.heap.size, 0, none⟩ = false := free_of hnb 0
        clear hnb hb0 hnb' hb0' hlt
        go_wp2_with (first
          | (go_at_call 15; refine (num_any _ _).mono ?_; rintro e w9 ⟨rfl, h9⟩; obtain rfl := h9.symm; simp only [])
          | (go_at_call 17
             refine (HW.out _ _ ?_).mono ?_
             · simp [scriptB, bodyB]
             rintro e w5 ⟨wa2, wc2, F2, rfl, hwd, h2⟩
             have hb5 := HNB.out.2.trans (h2.mono HNB.out.2.size)
             have H5 := Lib.hid (And.intro hb5 ((h2.block _ (Array.getElem?_eq_some_iff.1 HNB.out.1).1).trans HNB.out.1))
             have HWD2 := Lib.hid hwd
             clear hwd h2 hb5
             simp only [])
          | (go_at_call 13
             refine (HT.out _ _ ?_).mono ?_
             · simp [scriptB, bodyB]
             rintro e w6 ⟨b, off, c', wa, wc, F, rfl, hb, q2, hwd, h2⟩
             have hlt5 := (Array.getElem?_eq_some_iff.1 H5.out.2).1
             have hx6 := (h2.block _ hlt5).trans H5.out.2
             have a0 : w6.cell? ⟨wr.heap.size, 0, none⟩ = some (.int .i64 4) := Lib.cell_of_heap hx6 0
             have a1 : w6.cell? ⟨wr.heap.size, 1, none⟩ = some (.string s) := Lib.cell_of_heap hx6 1
             have a2 : w6.cell? ⟨wr.heap.size, 2, none⟩ = some (.string ⟨#[]⟩) := Lib.cell_of_heap hx6 2
             have a3 : w6.cell? ⟨wr.heap.size, 3, none⟩ = some (.string ⟨#[]⟩) := Lib.cell_of_heap hx6 3
             have a4 : w6.cell? ⟨wr.heap.size, 4, none⟩ = some (.slice none 0 0) := Lib.cell_of_heap hx6 4
             have a5 : w6.cell? ⟨wr.heap.size, 5, none⟩ = some (.bool true) := Lib.cell_of_heap hx6 5
             have hb6 := H5.out.1.trans (h2.mono H5.out.1.size)
             have HB6 := Lib.hid hb6
             have HS1 := Lib.hid (fun w' hw => same_pt (w' := w') 4 4 rfl s true (HWD2.out.under h2) hw)
             have HWD1 := Lib.hid hwd
             have HWD26 := Lib.hid (HWD2.out.under h2)
             have ad0 := addn b off 0
             rw [Nat.add_zero] at ad0
             clear h2 hwd hb6 hx6 hlt5
             simp only [])
          | (go_at_call 18
             (with_reducible refine (HS1.out _ (Below.refl _ _)).mono ?_)
             rintro e w8 ⟨rfl, h2⟩
             have h3 := after_new h2
             have q28 := cell_under h3 hb q2
             have HS2 := Lib.hid (Same_eq (w := w8) (by rw [wsz_prt]; decide) (HWD1.out.under h3) (HWD26.out.under h3))
             have H8 := Lib.hid h3
             clear h2 h3 q2
             simp only [])
          | (go_at_call 18
             (with_reducible refine HS2.out.mono ?_)
             rintro e w9 ⟨rfl, h2⟩
             have H9 := Lib.hid (H8.out.trans (h2.mono H8.out.size))
             clear h2
             simp only []))
        rw [← HQ.out]
        exact ⟨rfl, H1.out.trans ((HB6.out.trans (H9.out.mono HB6.out.size)).mono H1.out.size)⟩
      · have hoI : ((o : Int) == 0) = false := beq_eq_false_iff_ne.2 (by omega)
        clear hlt
        go_wp2_with fail
        rw [← HQ.out]; exact ⟨rfl, H1.out⟩
set_option maxRecDepth 100000 in
set_option maxHeartbeats 8000000 in
theorem scripts_tf (s : ByteArray) (w : World) (hs : s.size ≤ maxLen) : Calls Try.prog 11 #[.string s, .bool true, .bool false] w (SayPq w) := by
  obtain ⟨Q, hQ⟩ : ∃ Q, SayPq w = Q := ⟨_, rfl⟩
  rw [hQ]
  have HQ := Lib.hid hQ
  have HA := Lib.hid (alive_any w)
  clear hQ
  by_cases hl : 200 < s.size
  · have hlI : (200 : Int) < (s.size : Int) := by omega
    have hld : decide ((200 : Int) < (s.size : Int)) = true := decide_eq_true hlI
    go_enter Try.func11, Try.ntmps11
    go_wp2_with (go_at_call 12; refine HA.out.mono ?_; rintro e w1 ⟨rfl, h1⟩; have H1 := Lib.hid h1; clear h1; simp only [])
    rw [← HQ.out]; exact ⟨rfl, H1.out⟩
  have hlI : ¬ (200 : Int) < (s.size : Int) := by omega
  have hld : decide ((200 : Int) < (s.size : Int)) = false := decide_eq_false hlI
  have hsl : s.size ≤ 200 := by omega
  go_enter Try.func11, Try.ntmps11
  go_wp2_with (go_at_call 12; refine HA.out.mono ?_; rintro e w1 ⟨rfl, h1⟩; have H1 := Lib.hid h1; clear h1; simp only [])
  go_loopw [8, 9] (fun op i wx => ∃ k o : Nat, k ≤ s.size ∧ op = .int .i64 o ∧ i = .int .i64 k ∧ wx = w1 ∧ Hid (Scr s k o)) (fun op i _ => s.size - (intOf i).toNat)
  case atStart => exact ⟨0, 0, Nat.zero_le _, rfl, rfl, rfl, Scr.nil s⟩
  case round =>
    obtain ⟨k, o, hk, rfl, rfl, rfl, HL⟩ := hrel
    have hok := HL.out.le
    by_cases hlt : k < s.size
    · have hltI : (k : Int) < (s.size : Int) := by omega
      have hltd : decide ((k : Int) < (s.size : Int)) = true := decide_eq_true hltI
      have hk0 : (0 : Int) ≤ (k : Int) := by omega
      have hwu : IntKind.i64.wrap ((o : Int) + 1) = (o : Int) + 1 := IntWalk.i64_in _ (by omega)
      have hwd : IntKind.i64.wrap ((o : Int) - 1) = (o : Int) - 1 := IntWalk.i64_in _ (by omega)
      have hat := data_get s k hlt
      obtain ⟨d, hd⟩ : ∃ d, s[k]'hlt = d := ⟨_, rfl⟩
      rw [hd] at hat
      have HAT := Lib.hid hat
      clear hat
      have h39 := byte_eq d 39
      rw [show ((39 : UInt8).toNat : Int) = 39 from rfl] at h39
      have h34 := byte_eq d 34
      rw [show ((34 : UInt8).toNat : Int) = 34 from rfl] at h34
      have h92 := byte_eq d 92
      rw [show ((92 : UInt8).toNat : Int) = 92 from rfl] at h92
      have h0 := byte_eq d 0
      rw [show ((0 : UInt8).toNat : Int) = 0 from rfl] at h0
      have h96 := byte_eq d 96
      rw [show ((96 : UInt8).toNat : Int) = 96 from rfl] at h96
      have h40 := byte_eq d 40
      rw [show ((40 : UInt8).toNat : Int) = 40 from rfl] at h40
      have h41 := byte_eq d 41
      rw [show ((41 : UInt8).toNat : Int) = 41 from rfl] at h41
      by_cases e40 : d = 40
      · have HAT2 : Hid (s.data.toList[k]? = some 40) := by rw [Hid, HAT.out, e40]
        rw [show (d == 39) = false by rw [e40]; rfl] at h39
        rw [show (d == 34) = false by rw [e40]; rfl] at h34
        rw [show (d == 92) = false by rw [e40]; rfl] at h92
        rw [show (d == 0) = false by rw [e40]; rfl] at h0
        rw [show (d == 96) = false by rw [e40]; rfl] at h96
        rw [show (d == 40) = true by rw [e40]; rfl] at h40
        rw [show (d == 41) = false by rw [e40]; rfl] at h41
        have hop : decide ((o : Int) + 1 < 0) = false := decide_eq_false (by omega)
        clear e40
        go_wp2_with fail
        go_roundw
        case measure => simp [intOf]; omega
        case rel => exact ⟨k + 1, o + 1, by omega, by go_num, by go_num, trivial, HL.out.up HAT2.out⟩
      · by_cases e41 : d = 41
        · have HAT2 : Hid (s.data.toList[k]? = some 41) := by rw [Hid, HAT.out, e41]
          rw [show (d == 39) = false by rw [e41]; rfl] at h39
          rw [show (d == 34) = false by rw [e41]; rfl] at h34
          rw [show (d == 92) = false by rw [e41]; rfl] at h92
          rw [show (d == 0) = false by rw [e41]; rfl] at h0
          rw [show (d == 96) = false by rw [e41]; rfl] at h96
          rw [show (d == 40) = false by rw [e41]; rfl] at h40
          rw [show (d == 41) = true by rw [e41]; rfl] at h41
          clear e41 e40
          cases o with
          | zero =>
            have hop : decide (((0 : Nat) : Int) - 1 < 0) = true := decide_eq_true (by omega)
            go_wp2_with fail
            rw [← HQ.out]; exact ⟨rfl, H1.out⟩
          | succ o =>
            have hw2 : ((o + 1 : Nat) : Int) - 1 = (o : Int) := by omega
            have hop : decide ((o : Int) < 0) = false := decide_eq_false (by omega)
            rw [hw2] at hwd
            clear hw2
            go_wp2_with fail
            go_roundw
            case measure => simp [intOf]; omega
            case rel => exact ⟨k + 1, o, by omega, by go_num, by go_num, trivial, HL.out.down HAT2.out⟩
        · have hop : decide ((o : Int) < 0) = false := decide_eq_false (by omega)
          have HE40 := Lib.hid e40
          have HE41 := Lib.hid e41
          obtain ⟨z39, hz39⟩ : ∃ z, (d == 39) = z := ⟨_, rfl⟩
          rw [hz39] at h39
          have HZ39 := Lib.hid hz39
          clear hz39
          obtain ⟨z34, hz34⟩ : ∃ z, (d == 34) = z := ⟨_, rfl⟩
          rw [hz34] at h34
          have HZ34 := Lib.hid hz34
          clear hz34
          obtain ⟨z92, hz92⟩ : ∃ z, (d == 92) = z := ⟨_, rfl⟩
          rw [hz92] at h92
          have HZ92 := Lib.hid hz92
          clear hz92
          obtain ⟨z0, hz0⟩ : ∃ z, (d == 0) = z := ⟨_, rfl⟩
          rw [hz0] at h0
          have HZ0 := Lib.hid hz0
          clear hz0
          obtain ⟨z96, hz96⟩ : ∃ z, (d == 96) = z := ⟨_, rfl⟩
          rw [hz96] at h96
          have HZ96 := Lib.hid hz96
          clear hz96
          rw [beq_eq_false_iff_ne.2 e40] at h40
          rw [beq_eq_false_iff_ne.2 e41] at h41
          clear e40 e41
          go_wp2_with fail
          all_goals first
            | (rw [← HQ.out]; exact ⟨rfl, H1.out⟩)
            | (go_roundw
               case measure => simp [intOf]; omega
               case rel => exact ⟨k + 1, o, by omega, by go_num, by go_num, trivial, HL.out.on HAT.out HE40.out HE41.out ⟨(fun e => (by first | assumption | exact not_of_false (by assumption) : ¬ z39 = true) (by rw [← HZ39.out, e]; rfl)), (fun e => (by first | assumption | exact not_of_false (by assumption) : ¬ z34 = true) (by rw [← HZ34.out, e]; rfl)), (fun e => (by first | assumption | exact not_of_false (by assumption) : ¬ z92 = true) (by rw [← HZ92.out, e]; rfl)), (fun e => (by first | assumption | exact not_of_false (by assumption) : ¬ z0 = true) (by rw [← HZ0.out, e]; rfl)), (fun e => (by first | assumption | exact not_of_false (by assumption) : ¬ z96 = true) (by rw [← HZ96.out, e]; rfl))⟩⟩)
    · obtain rfl : k = s.size := by omega
      have hltd : decide ((s.size : Int) < (s.size : Int)) = false := decide_eq_false (by omega)
      by_cases ho : o = 0
      · subst ho
        have HH : Hid (true = false → s.data.toList.head? ≠ some 40) := fun e => by cases e
        have HSO := Lib.hid (HL.out.ok (ck := true) HH.out)
        have HSA := Lib.hid (script_all (ck := true) (quoted := false) HSO.out (by rw [dl]; exact hsl))
        have HW : Hid (∀ (S : ByteArray) (w' : World), S.data.toList = scriptB true false s.data.toList → Calls Try.prog 17 #[.string S] w' fun e w'' => ∃ wa wc F, e = .returned (.tuple #[.slice wa 1 wc, .int .i64 0]) ∧ Wd w'' F (.slice wa 1 wc) [.mk 4 s.data.toList [] [] [] false] ∧ Below w'.heap.size w' w'') := fun S w' hS => by
          refine (Word_ok S w' (l := [scriptP true false s.data.toList]) (by have := congrArg List.length hS; have h2 := scriptB_len true false s.data.toList; rw [dl] at this h2; omega) (by rw [hS]; exact HSA.out.1)).mono ?_
          rintro e w'' ⟨a, c, rfl, h1, h2⟩
          exact ⟨a, c, _, rfl, h1, h2⟩
        have HT : Hid (∀ (S : ByteArray) (w' : World), S.data.toList = scriptB true false s.data.toList ++ [59] → Calls Try.prog 13 #[.string S] w' fun e w'' => ∃ b off c wa wc F, e = .returned (.tuple #[.slice (some ⟨b, off, none⟩) 2 c, .int .i64 0]) ∧ b < w''.heap.size ∧ w''.cell? ⟨b, off + 2, none⟩ = some (.slice wa 1 wc) ∧ Wd w'' F (.slice wa 1 wc) [.mk 4 s.data.toList [] [] [] false] ∧ Below w'.heap.size w' w'') := fun S w' hS => by
          refine (Tokens_ok S w' (l := [.word [scriptP true false s.data.toList], .op [59]]) (by have := congrArg List.length hS; have h2 := scriptB_len true false s.data.toList; rw [List.length_append, dl] at this; rw [dl] at h2; simp at this; omega) (by rw [hS]; exact HSA.out.2)).mono ?_
          rintro e w' ⟨a, c, rfl, h1, h2⟩
          obtain ⟨-, b, off, kk, t, wa, wc, F, rfl, hb, q0, q1, q2, -, -, hw⟩ := h1.cells (i := 0) (by simp)
          simp only [List.getElem_cons_zero, tokW, Nat.zero_mul, Nat.add_zero] at q2 hw
          exact ⟨b, off, c, wa, wc, F, rfl, hb, q2, hw, h2⟩
        have hnb := heap_alloc_new wr (.cells #[.int .i64 5, .string s, .string ⟨#[]⟩, .string ⟨#[]⟩, .slice none 0 0, .bool false] 39)
        have hb0 := (Below.refl wr.heap.size wr).alloc (Nat.le_refl _) (.cells #[.int .i64 5, .string s, .string ⟨#[]⟩, .string ⟨#[]⟩, .slice none 0 0, .bool false] 39)
        have hnb' := heap_alloc_new wr (.cells #[.int .i64 4, .string s, .string ⟨#[]⟩, .string ⟨#[]⟩, .slice none 0 0, .bool false] 39)
        have hb0' := (Below.refl wr.heap.size wr).alloc (Nat.le_refl _) (.cells #[.int .i64 4, .string s, .string ⟨#[]⟩, .string ⟨#[]⟩, .slice none 0 0, .bool false] 39)
        have HNB := Lib.hid (And.intro hnb' hb0')
        have hfr : (wr.alloc (.cells #[.int .i64 5, .string s, .string ⟨#[]⟩, .string ⟨#[]⟩, .slice none 0 0, .bool false] 39)).frozen? ⟨wr.heap.size, 0, none⟩ = false := free_of hnb 0
        clear hnb hb0 hnb' hb0' hlt
        go_wp2_with (first
          | (go_at_call 15; refine (num_any _ _).mono ?_; rintro e w9 ⟨rfl, h9⟩; obtain rfl := h9.symm; simp only [])
          | (go_at_call 17
             refine (HW.out _ _ ?_).mono ?_
             · simp [scriptB, bodyB]
             rintro e w5 ⟨wa2, wc2, F2, rfl, hwd, h2⟩
             have hb5 := HNB.out.2.trans (h2.mono HNB.out.2.size)
             have H5 := Lib.hid (And.intro hb5 ((h2.block _ (Array.getElem?_eq_some_iff.1 HNB.out.1).1).trans HNB.out.1))
             have HWD2 := Lib.hid hwd
             clear hwd h2 hb5
             simp only [])
          | (go_at_call 13
             refine (HT.out _ _ ?_).mono ?_
             · simp [scriptB, bodyB]
             rintro e w6 ⟨b, off, c', wa, wc, F, rfl, hb, q2, hwd, h2⟩
             have hlt5 := (Array.getElem?_eq_some_iff.1 H5.out.2).1
             have hx6 := (h2.block _ hlt5).trans H5.out.2
             have a0 : w6.cell? ⟨wr.heap.size, 0, none⟩ = some (.int .i64 4) := Lib.cell_of_heap hx6 0
             have a1 : w6.cell? ⟨wr.heap.size, 1, none⟩ = some (.string s) := Lib.cell_of_heap hx6 1
             have a2 : w6.cell? ⟨wr.heap.size, 2, none⟩ = some (.string ⟨#[]⟩) := Lib.cell_of_heap hx6 2
             have a3 : w6.cell? ⟨wr.heap.size, 3, none⟩ = some (.string ⟨#[]⟩) := Lib.cell_of_heap hx6 3
             have a4 : w6.cell? ⟨wr.heap.size, 4, none⟩ = some (.slice none 0 0) := Lib.cell_of_heap hx6 4
             have a5 : w6.cell? ⟨wr.heap.size, 5, none⟩ = some (.bool false) := Lib.cell_of_heap hx6 5
             have hb6 := H5.out.1.trans (h2.mono H5.out.1.size)
             have HB6 := Lib.hid hb6
             have HS1 := Lib.hid (fun w' hw => same_pt (w' := w') 4 4 rfl s false (HWD2.out.under h2) hw)
             have HWD1 := Lib.hid hwd
             have HWD26 := Lib.hid (HWD2.out.under h2)
             have ad0 := addn b off 0
             rw [Nat.add_zero] at ad0
             clear h2 hwd hb6 hx6 hlt5
             simp only [])
          | (go_at_call 18
             (with_reducible refine (HS1.out _ (Below.refl _ _)).mono ?_)
             rintro e w8 ⟨rfl, h2⟩
             have h3 := after_new h2
             have q28 := cell_under h3 hb q2
             have HS2 := Lib.hid (Same_eq (w := w8) (by rw [wsz_prt]; decide) (HWD1.out.under h3) (HWD26.out.under h3))
             have H8 := Lib.hid h3
             clear h2 h3 q2
             simp only [])
          | (go_at_call 18
             (with_reducible refine HS2.out.mono ?_)
             rintro e w9 ⟨rfl, h2⟩
             have H9 := Lib.hid (H8.out.trans (h2.mono H8.out.size))
             clear h2
             simp only []))
        rw [← HQ.out]
        exact ⟨rfl, H1.out.trans ((HB6.out.trans (H9.out.mono HB6.out.size)).mono H1.out.size)⟩
      · have hoI : ((o : Int) == 0) = false := beq_eq_false_iff_ne.2 (by omega)
        clear hlt
        go_wp2_with fail
        rw [← HQ.out]; exact ⟨rfl, H1.out⟩
set_option maxRecDepth 100000 in
set_option maxHeartbeats 8000000 in
theorem scripts_ft (s : ByteArray) (w : World) (hs : s.size ≤ maxLen) : Calls Try.prog 11 #[.string s, .bool false, .bool true] w (SayPq w) := by
  obtain ⟨Q, hQ⟩ : ∃ Q, SayPq w = Q := ⟨_, rfl⟩
  rw [hQ]
  have HQ := Lib.hid hQ
  have HA := Lib.hid (alive_any w)
  clear hQ
  by_cases hl : 200 < s.size
  · have hlI : (200 : Int) < (s.size : Int) := by omega
    have hld : decide ((200 : Int) < (s.size : Int)) = true := decide_eq_true hlI
    go_enter Try.func11, Try.ntmps11
    go_wp2_with (go_at_call 12; refine HA.out.mono ?_; rintro e w1 ⟨rfl, h1⟩; have H1 := Lib.hid h1; clear h1; simp only [])
    rw [← HQ.out]; exact ⟨rfl, H1.out⟩
  have hlI : ¬ (200 : Int) < (s.size : Int) := by omega
  have hld : decide ((200 : Int) < (s.size : Int)) = false := decide_eq_false hlI
  have hsl : s.size ≤ 200 := by omega
  go_enter Try.func11, Try.ntmps11
  go_wp2_with (go_at_call 12; refine HA.out.mono ?_; rintro e w1 ⟨rfl, h1⟩; have H1 := Lib.hid h1; clear h1; simp only [])
  go_loopw [8, 9] (fun op i wx => ∃ k o : Nat, k ≤ s.size ∧ op = .int .i64 o ∧ i = .int .i64 k ∧ wx = w1 ∧ Hid (Scr s k o)) (fun op i _ => s.size - (intOf i).toNat)
  case atStart => exact ⟨0, 0, Nat.zero_le _, rfl, rfl, rfl, Scr.nil s⟩
  case round =>
    obtain ⟨k, o, hk, rfl, rfl, rfl, HL⟩ := hrel
    have hok := HL.out.le
    by_cases hlt : k < s.size
    · have hltI : (k : Int) < (s.size : Int) := by omega
      have hltd : decide ((k : Int) < (s.size : Int)) = true := decide_eq_true hltI
      have hk0 : (0 : Int) ≤ (k : Int) := by omega
      have hwu : IntKind.i64.wrap ((o : Int) + 1) = (o : Int) + 1 := IntWalk.i64_in _ (by omega)
      have hwd : IntKind.i64.wrap ((o : Int) - 1) = (o : Int) - 1 := IntWalk.i64_in _ (by omega)
      have hat := data_get s k hlt
      obtain ⟨d, hd⟩ : ∃ d, s[k]'hlt = d := ⟨_, rfl⟩
      rw [hd] at hat
      have HAT := Lib.hid hat
      clear hat
      have h39 := byte_eq d 39
      rw [show ((39 : UInt8).toNat : Int) = 39 from rfl] at h39
      have h34 := byte_eq d 34
      rw [show ((34 : UInt8).toNat : Int) = 34 from rfl] at h34
      have h92 := byte_eq d 92
      rw [show ((92 : UInt8).toNat : Int) = 92 from rfl] at h92
      have h0 := byte_eq d 0
      rw [show ((0 : UInt8).toNat : Int) = 0 from rfl] at h0
      have h96 := byte_eq d 96
      rw [show ((96 : UInt8).toNat : Int) = 96 from rfl] at h96
      have h40 := byte_eq d 40
      rw [show ((40 : UInt8).toNat : Int) = 40 from rfl] at h40
      have h41 := byte_eq d 41
      rw [show ((41 : UInt8).toNat : Int) = 41 from rfl] at h41
      by_cases e40 : d = 40
      · have HAT2 : Hid (s.data.toList[k]? = some 40) := by rw [Hid, HAT.out, e40]
        rw [show (d == 39) = false by rw [e40]; rfl] at h39
        rw [show (d == 34) = false by rw [e40]; rfl] at h34
        rw [show (d == 92) = false by rw [e40]; rfl] at h92
        rw [show (d == 0) = false by rw [e40]; rfl] at h0
        rw [show (d == 96) = false by rw [e40]; rfl] at h96
        rw [show (d == 40) = true by rw [e40]; rfl] at h40
        rw [show (d == 41) = false by rw [e40]; rfl] at h41
        have hop : decide ((o : Int) + 1 < 0) = false := decide_eq_false (by omega)
        clear e40
        go_wp2_with fail
        go_roundw
        case measure => simp [intOf]; omega
        case rel => exact ⟨k + 1, o + 1, by omega, by go_num, by go_num, trivial, HL.out.up HAT2.out⟩
      · by_cases e41 : d = 41
        · have HAT2 : Hid (s.data.toList[k]? = some 41) := by rw [Hid, HAT.out, e41]
          rw [show (d == 39) = false by rw [e41]; rfl] at h39
          rw [show (d == 34) = false by rw [e41]; rfl] at h34
          rw [show (d == 92) = false by rw [e41]; rfl] at h92
          rw [show (d == 0) = false by rw [e41]; rfl] at h0
          rw [show (d == 96) = false by rw [e41]; rfl] at h96
          rw [show (d == 40) = false by rw [e41]; rfl] at h40
          rw [show (d == 41) = true by rw [e41]; rfl] at h41
          clear e41 e40
          cases o with
          | zero =>
            have hop : decide (((0 : Nat) : Int) - 1 < 0) = true := decide_eq_true (by omega)
            go_wp2_with fail
            rw [← HQ.out]; exact ⟨rfl, H1.out⟩
          | succ o =>
            have hw2 : ((o + 1 : Nat) : Int) - 1 = (o : Int) := by omega
            have hop : decide ((o : Int) < 0) = false := decide_eq_false (by omega)
            rw [hw2] at hwd
            clear hw2
            go_wp2_with fail
            go_roundw
            case measure => simp [intOf]; omega
            case rel => exact ⟨k + 1, o, by omega, by go_num, by go_num, trivial, HL.out.down HAT2.out⟩
        · have hop : decide ((o : Int) < 0) = false := decide_eq_false (by omega)
          have HE40 := Lib.hid e40
          have HE41 := Lib.hid e41
          obtain ⟨z39, hz39⟩ : ∃ z, (d == 39) = z := ⟨_, rfl⟩
          rw [hz39] at h39
          have HZ39 := Lib.hid hz39
          clear hz39
          obtain ⟨z34, hz34⟩ : ∃ z, (d == 34) = z := ⟨_, rfl⟩
          rw [hz34] at h34
          have HZ34 := Lib.hid hz34
          clear hz34
          obtain ⟨z92, hz92⟩ : ∃ z, (d == 92) = z := ⟨_, rfl⟩
          rw [hz92] at h92
          have HZ92 := Lib.hid hz92
          clear hz92
          obtain ⟨z0, hz0⟩ : ∃ z, (d == 0) = z := ⟨_, rfl⟩
          rw [hz0] at h0
          have HZ0 := Lib.hid hz0
          clear hz0
          obtain ⟨z96, hz96⟩ : ∃ z, (d == 96) = z := ⟨_, rfl⟩
          rw [hz96] at h96
          have HZ96 := Lib.hid hz96
          clear hz96
          rw [beq_eq_false_iff_ne.2 e40] at h40
          rw [beq_eq_false_iff_ne.2 e41] at h41
          clear e40 e41
          go_wp2_with fail
          all_goals first
            | (rw [← HQ.out]; exact ⟨rfl, H1.out⟩)
            | (go_roundw
               case measure => simp [intOf]; omega
               case rel => exact ⟨k + 1, o, by omega, by go_num, by go_num, trivial, HL.out.on HAT.out HE40.out HE41.out ⟨(fun e => (by first | assumption | exact not_of_false (by assumption) : ¬ z39 = true) (by rw [← HZ39.out, e]; rfl)), (fun e => (by first | assumption | exact not_of_false (by assumption) : ¬ z34 = true) (by rw [← HZ34.out, e]; rfl)), (fun e => (by first | assumption | exact not_of_false (by assumption) : ¬ z92 = true) (by rw [← HZ92.out, e]; rfl)), (fun e => (by first | assumption | exact not_of_false (by assumption) : ¬ z0 = true) (by rw [← HZ0.out, e]; rfl)), (fun e => (by first | assumption | exact not_of_false (by assumption) : ¬ z96 = true) (by rw [← HZ96.out, e]; rfl))⟩⟩)
    · obtain rfl : k = s.size := by omega
      have hltd : decide ((s.size : Int) < (s.size : Int)) = false := decide_eq_false (by omega)
      by_cases ho : o = 0
      · subst ho
        by_cases hh : s.data.toList.head? = some 40
        · have hp : 0 < s.size := by
            rw [← dl]
            cases hx : s.data.toList with
            | nil => rw [hx] at hh; cases hh
            | cons a b => simp
          have hpI : (0 : Int) < (s.size : Int) := by omega
          have hpd : decide ((0 : Int) < (s.size : Int)) = true := decide_eq_true hpI
          have hz : s[0]'hp = 40 := by
            have := data_get s 0 hp
            rw [← List.head?_eq_getElem?, hh] at this
            exact (Option.some.inj this).symm
          have hz2 : (((s[0]'hp).toNat : Int) == 40) = true := by rw [hz]; rfl
          clear hlt hh
          go_wp2_with fail
          rw [← HQ.out]; exact ⟨rfl, H1.out⟩
        · have HH : Hid (false = false → s.data.toList.head? ≠ some 40) := fun _ => hh
          by_cases hp : 0 < s.size
          · have hpI : (0 : Int) < (s.size : Int) := by omega
            have hpd : decide ((0 : Int) < (s.size : Int)) = true := decide_eq_true hpI
            have hz : s[0]'hp ≠ 40 := fun e => by
              have := data_get s 0 hp
              rw [← List.head?_eq_getElem?, e] at this
              exact hh this
            obtain ⟨d0, hd0⟩ : ∃ d0, s[0]'hp = d0 := ⟨_, rfl⟩
            have hz2 : ((d0.toNat : Int) == 40) = false := by
              have h40 := byte_eq d0 40
              rw [show ((40 : UInt8).toNat : Int) = 40 from rfl] at h40
              rw [h40, ← hd0]; exact beq_eq_false_iff_ne.2 hz
            clear hz hh
            have HSO := Lib.hid (HL.out.ok (ck := false) HH.out)
            have HSA := Lib.hid (script_all (ck := false) (quoted := true) HSO.out (by rw [dl]; exact hsl))
            have HW : Hid (∀ (S : ByteArray) (w' : World), S.data.toList = scriptB false true s.data.toList → Calls Try.prog 17 #[.string S] w' fun e w'' => ∃ wa wc F, e = .returned (.tuple #[.slice wa 1 wc, .int .i64 0]) ∧ Wd w'' F (.slice wa 1 wc) [.mk 5 s.data.toList [] [] [] true] ∧ Below w'.heap.size w' w'') := fun S w' hS => by
              refine (Word_ok S w' (l := [scriptP false true s.data.toList]) (by have := congrArg List.length hS; have h2 := scriptB_len false true s.data.toList; rw [dl] at this h2; omega) (by rw [hS]; exact HSA.out.1)).mono ?_
              rintro e w'' ⟨a, c, rfl, h1, h2⟩
              exact ⟨a, c, _, rfl, h1, h2⟩
            have HT : Hid (∀ (S : ByteArray) (w' : World), S.data.toList = scriptB false true s.data.toList ++ [59] → Calls Try.prog 13 #[.string S] w' fun e w'' => ∃ b off c wa wc F, e = .returned (.tuple #[.slice (some ⟨b, off, none⟩) 2 c, .int .i64 0]) ∧ b < w''.heap.size ∧ w''.cell? ⟨b, off + 2, none⟩ = some (.slice wa 1 wc) ∧ Wd w'' F (.slice wa 1 wc) [.mk 5 s.data.toList [] [] [] true] ∧ Below w'.heap.size w' w'') := fun S w' hS => by
              refine (Tokens_ok S w' (l := [.word [scriptP false true s.data.toList], .op [59]]) (by have := congrArg List.length hS; have h2 := scriptB_len false true s.data.toList; rw [List.length_append, dl] at this; rw [dl] at h2; simp at this; omega) (by rw [hS]; exact HSA.out.2)).mono ?_
              rintro e w' ⟨a, c, rfl, h1, h2⟩
              obtain ⟨-, b, off, kk, t, wa, wc, F, rfl, hb, q0, q1, q2, -, -, hw⟩ := h1.cells (i := 0) (by simp)
              simp only [List.getElem_cons_zero, tokW, Nat.zero_mul, Nat.add_zero] at q2 hw
              exact ⟨b, off, c, wa, wc, F, rfl, hb, q2, hw, h2⟩
            have hnb := heap_alloc_new wr (.cells #[.int .i64 5, .string s, .string ⟨#[]⟩, .string ⟨#[]⟩, .slice none 0 0, .bool true] 39)
            have hb0 := (Below.refl wr.heap.size wr).alloc (Nat.le_refl _) (.cells #[.int .i64 5, .string s, .string ⟨#[]⟩, .string ⟨#[]⟩, .slice none 0 0, .bool true] 39)
            have hnb' := hnb
            have hb0' := hb0
            have HNB := Lib.hid (And.intro hnb' hb0')
            have hfr : (wr.alloc (.cells #[.int .i64 5, .string s, .string ⟨#[]⟩, .string ⟨#[]⟩, .slice none 0 0, .bool true] 39)).frozen? ⟨wr.heap.size, 0, none⟩ = false := free_of hnb 0
            clear hnb hb0 hnb' hb0' hlt
            go_wp2_with (first
              | (go_at_call 15; refine (num_any _ _).mono ?_; rintro e w9 ⟨rfl, h9⟩; obtain rfl := h9.symm; simp only [])
              | (go_at_call 17
                 refine (HW.out _ _ ?_).mono ?_
                 · simp [scriptB, bodyB]
                 rintro e w5 ⟨wa2, wc2, F2, rfl, hwd, h2⟩
                 have hb5 := HNB.out.2.trans (h2.mono HNB.out.2.size)
                 have H5 := Lib.hid (And.intro hb5 ((h2.block _ (Array.getElem?_eq_some_iff.1 HNB.out.1).1).trans HNB.out.1))
                 have HWD2 := Lib.hid hwd
                 clear hwd h2 hb5
                 simp only [])
              | (go_at_call 13
                 refine (HT.out _ _ ?_).mono ?_
                 · simp [scriptB, bodyB]
                 rintro e w6 ⟨b, off, c', wa, wc, F, rfl, hb, q2, hwd, h2⟩
                 have hlt5 := (Array.getElem?_eq_some_iff.1 H5.out.2).1
                 have hx6 := (h2.block _ hlt5).trans H5.out.2
                 have a0 : w6.cell? ⟨wr.heap.size, 0, none⟩ = some (.int .i64 5) := Lib.cell_of_heap hx6 0
                 have a1 : w6.cell? ⟨wr.heap.size, 1, none⟩ = some (.string s) := Lib.cell_of_heap hx6 1
                 have a2 : w6.cell? ⟨wr.heap.size, 2, none⟩ = some (.string ⟨#[]⟩) := Lib.cell_of_heap hx6 2
                 have a3 : w6.cell? ⟨wr.heap.size, 3, none⟩ = some (.string ⟨#[]⟩) := Lib.cell_of_heap hx6 3
                 have a4 : w6.cell? ⟨wr.heap.size, 4, none⟩ = some (.slice none 0 0) := Lib.cell_of_heap hx6 4
                 have a5 : w6.cell? ⟨wr.heap.size, 5, none⟩ = some (.bool true) := Lib.cell_of_heap hx6 5
                 have hb6 := H5.out.1.trans (h2.mono H5.out.1.size)
                 have HB6 := Lib.hid hb6
                 have HS1 := Lib.hid (fun w' hw => same_pt (w' := w') 5 5 rfl s true (HWD2.out.under h2) hw)
                 have HWD1 := Lib.hid hwd
                 have HWD26 := Lib.hid (HWD2.out.under h2)
                 have ad0 := addn b off 0
                 rw [Nat.add_zero] at ad0
                 clear h2 hwd hb6 hx6 hlt5
                 simp only [])
              | (go_at_call 18
                 (with_reducible refine (HS1.out _ (Below.refl _ _)).mono ?_)
                 rintro e w8 ⟨rfl, h2⟩
                 have h3 := after_new h2
                 have q28 := cell_under h3 hb q2
                 have HS2 := Lib.hid (Same_eq (w := w8) (by rw [wsz_prt]; decide) (HWD1.out.under h3) (HWD26.out.under h3))
                 have H8 := Lib.hid h3
                 clear h2 h3 q2
                 simp only [])
              | (go_at_call 18
                 (with_reducible refine HS2.out.mono ?_)
                 rintro e w9 ⟨rfl, h2⟩
                 have H9 := Lib.hid (H8.out.trans (h2.mono H8.out.size))
                 clear h2
                 simp only []))
            rw [← HQ.out]
            exact ⟨rfl, H1.out.trans ((HB6.out.trans (H9.out.mono HB6.out.size)).mono H1.out.size)⟩
          · have hpI : ¬ (0 : Int) < (s.size : Int) := by omega
            have hpd : decide ((0 : Int) < (s.size : Int)) = false := decide_eq_false hpI
            clear hh
            have HSO := Lib.hid (HL.out.ok (ck := false) HH.out)
            have HSA := Lib.hid (script_all (ck := false) (quoted := true) HSO.out (by rw [dl]; exact hsl))
            have HW : Hid (∀ (S : ByteArray) (w' : World), S.data.toList = scriptB false true s.data.toList → Calls Try.prog 17 #[.string S] w' fun e w'' => ∃ wa wc F, e = .returned (.tuple #[.slice wa 1 wc, .int .i64 0]) ∧ Wd w'' F (.slice wa 1 wc) [.mk 5 s.data.toList [] [] [] true] ∧ Below w'.heap.size w' w'') := fun S w' hS => by
              refine (Word_ok S w' (l := [scriptP false true s.data.toList]) (by have := congrArg List.length hS; have h2 := scriptB_len false true s.data.toList; rw [dl] at this h2; omega) (by rw [hS]; exact HSA.out.1)).mono ?_
              rintro e w'' ⟨a, c, rfl, h1, h2⟩
              exact ⟨a, c, _, rfl, h1, h2⟩
            have HT : Hid (∀ (S : ByteArray) (w' : World), S.data.toList = scriptB false true s.data.toList ++ [59] → Calls Try.prog 13 #[.string S] w' fun e w'' => ∃ b off c wa wc F, e = .returned (.tuple #[.slice (some ⟨b, off, none⟩) 2 c, .int .i64 0]) ∧ b < w''.heap.size ∧ w''.cell? ⟨b, off + 2, none⟩ = some (.slice wa 1 wc) ∧ Wd w'' F (.slice wa 1 wc) [.mk 5 s.data.toList [] [] [] true] ∧ Below w'.heap.size w' w'') := fun S w' hS => by
              refine (Tokens_ok S w' (l := [.word [scriptP false true s.data.toList], .op [59]]) (by have := congrArg List.length hS; have h2 := scriptB_len false true s.data.toList; rw [List.length_append, dl] at this; rw [dl] at h2; simp at this; omega) (by rw [hS]; exact HSA.out.2)).mono ?_
              rintro e w' ⟨a, c, rfl, h1, h2⟩
              obtain ⟨-, b, off, kk, t, wa, wc, F, rfl, hb, q0, q1, q2, -, -, hw⟩ := h1.cells (i := 0) (by simp)
              simp only [List.getElem_cons_zero, tokW, Nat.zero_mul, Nat.add_zero] at q2 hw
              exact ⟨b, off, c, wa, wc, F, rfl, hb, q2, hw, h2⟩
            have hnb := heap_alloc_new wr (.cells #[.int .i64 5, .string s, .string ⟨#[]⟩, .string ⟨#[]⟩, .slice none 0 0, .bool true] 39)
            have hb0 := (Below.refl wr.heap.size wr).alloc (Nat.le_refl _) (.cells #[.int .i64 5, .string s, .string ⟨#[]⟩, .string ⟨#[]⟩, .slice none 0 0, .bool true] 39)
            have hnb' := hnb
            have hb0' := hb0
            have HNB := Lib.hid (And.intro hnb' hb0')
            have hfr : (wr.alloc (.cells #[.int .i64 5, .string s, .string ⟨#[]⟩, .string ⟨#[]⟩, .slice none 0 0, .bool true] 39)).frozen? ⟨wr.heap.size, 0, none⟩ = false := free_of hnb 0
            clear hnb hb0 hnb' hb0' hlt
            go_wp2_with (first
              | (go_at_call 15; refine (num_any _ _).mono ?_; rintro e w9 ⟨rfl, h9⟩; obtain rfl := h9.symm; simp only [])
              | (go_at_call 17
                 refine (HW.out _ _ ?_).mono ?_
                 · simp [scriptB, bodyB]
                 rintro e w5 ⟨wa2, wc2, F2, rfl, hwd, h2⟩
                 have hb5 := HNB.out.2.trans (h2.mono HNB.out.2.size)
                 have H5 := Lib.hid (And.intro hb5 ((h2.block _ (Array.getElem?_eq_some_iff.1 HNB.out.1).1).trans HNB.out.1))
                 have HWD2 := Lib.hid hwd
                 clear hwd h2 hb5
                 simp only [])
              | (go_at_call 13
                 refine (HT.out _ _ ?_).mono ?_
                 · simp [scriptB, bodyB]
                 rintro e w6 ⟨b, off, c', wa, wc, F, rfl, hb, q2, hwd, h2⟩
                 have hlt5 := (Array.getElem?_eq_some_iff.1 H5.out.2).1
                 have hx6 := (h2.block _ hlt5).trans H5.out.2
                 have a0 : w6.cell? ⟨wr.heap.size, 0, none⟩ = some (.int .i64 5) := Lib.cell_of_heap hx6 0
                 have a1 : w6.cell? ⟨wr.heap.size, 1, none⟩ = some (.string s) := Lib.cell_of_heap hx6 1
                 have a2 : w6.cell? ⟨wr.heap.size, 2, none⟩ = some (.string ⟨#[]⟩) := Lib.cell_of_heap hx6 2
                 have a3 : w6.cell? ⟨wr.heap.size, 3, none⟩ = some (.string ⟨#[]⟩) := Lib.cell_of_heap hx6 3
                 have a4 : w6.cell? ⟨wr.heap.size, 4, none⟩ = some (.slice none 0 0) := Lib.cell_of_heap hx6 4
                 have a5 : w6.cell? ⟨wr.heap.size, 5, none⟩ = some (.bool true) := Lib.cell_of_heap hx6 5
                 have hb6 := H5.out.1.trans (h2.mono H5.out.1.size)
                 have HB6 := Lib.hid hb6
                 have HS1 := Lib.hid (fun w' hw => same_pt (w' := w') 5 5 rfl s true (HWD2.out.under h2) hw)
                 have HWD1 := Lib.hid hwd
                 have HWD26 := Lib.hid (HWD2.out.under h2)
                 have ad0 := addn b off 0
                 rw [Nat.add_zero] at ad0
                 clear h2 hwd hb6 hx6 hlt5
                 simp only [])
              | (go_at_call 18
                 (with_reducible refine (HS1.out _ (Below.refl _ _)).mono ?_)
                 rintro e w8 ⟨rfl, h2⟩
                 have h3 := after_new h2
                 have q28 := cell_under h3 hb q2
                 have HS2 := Lib.hid (Same_eq (w := w8) (by rw [wsz_prt]; decide) (HWD1.out.under h3) (HWD26.out.under h3))
                 have H8 := Lib.hid h3
                 clear h2 h3 q2
                 simp only [])
              | (go_at_call 18
                 (with_reducible refine HS2.out.mono ?_)
                 rintro e w9 ⟨rfl, h2⟩
                 have H9 := Lib.hid (H8.out.trans (h2.mono H8.out.size))
                 clear h2
                 simp only []))
            rw [← HQ.out]
            exact ⟨rfl, H1.out.trans ((HB6.out.trans (H9.out.mono HB6.out.size)).mono H1.out.size)⟩
      · have hoI : ((o : Int) == 0) = false := beq_eq_false_iff_ne.2 (by omega)
        clear hlt
        go_wp2_with fail
        rw [← HQ.out]; exact ⟨rfl, H1.out⟩
set_option maxRecDepth 100000 in
set_option maxHeartbeats 8000000 in
theorem scripts_ff (s : ByteArray) (w : World) (hs : s.size ≤ maxLen) : Calls Try.prog 11 #[.string s, .bool false, .bool false] w (SayPq w) := by
  obtain ⟨Q, hQ⟩ : ∃ Q, SayPq w = Q := ⟨_, rfl⟩
  rw [hQ]
  have HQ := Lib.hid hQ
  have HA := Lib.hid (alive_any w)
  clear hQ
  by_cases hl : 200 < s.size
  · have hlI : (200 : Int) < (s.size : Int) := by omega
    have hld : decide ((200 : Int) < (s.size : Int)) = true := decide_eq_true hlI
    go_enter Try.func11, Try.ntmps11
    go_wp2_with (go_at_call 12; refine HA.out.mono ?_; rintro e w1 ⟨rfl, h1⟩; have H1 := Lib.hid h1; clear h1; simp only [])
    rw [← HQ.out]; exact ⟨rfl, H1.out⟩
  have hlI : ¬ (200 : Int) < (s.size : Int) := by omega
  have hld : decide ((200 : Int) < (s.size : Int)) = false := decide_eq_false hlI
  have hsl : s.size ≤ 200 := by omega
  go_enter Try.func11, Try.ntmps11
  go_wp2_with (go_at_call 12; refine HA.out.mono ?_; rintro e w1 ⟨rfl, h1⟩; have H1 := Lib.hid h1; clear h1; simp only [])
  go_loopw [8, 9] (fun op i wx => ∃ k o : Nat, k ≤ s.size ∧ op = .int .i64 o ∧ i = .int .i64 k ∧ wx = w1 ∧ Hid (Scr s k o)) (fun op i _ => s.size - (intOf i).toNat)
  case atStart => exact ⟨0, 0, Nat.zero_le _, rfl, rfl, rfl, Scr.nil s⟩
  case round =>
    obtain ⟨k, o, hk, rfl, rfl, rfl, HL⟩ := hrel
    have hok := HL.out.le
    by_cases hlt : k < s.size
    · have hltI : (k : Int) < (s.size : Int) := by omega
      have hltd : decide ((k : Int) < (s.size : Int)) = true := decide_eq_true hltI
      have hk0 : (0 : Int) ≤ (k : Int) := by omega
      have hwu : IntKind.i64.wrap ((o : Int) + 1) = (o : Int) + 1 := IntWalk.i64_in _ (by omega)
      have hwd : IntKind.i64.wrap ((o : Int) - 1) = (o : Int) - 1 := IntWalk.i64_in _ (by omega)
      have hat := data_get s k hlt
      obtain ⟨d, hd⟩ : ∃ d, s[k]'hlt = d := ⟨_, rfl⟩
      rw [hd] at hat
      have HAT := Lib.hid hat
      clear hat
      have h39 := byte_eq d 39
      rw [show ((39 : UInt8).toNat : Int) = 39 from rfl] at h39
      have h34 := byte_eq d 34
      rw [show ((34 : UInt8).toNat : Int) = 34 from rfl] at h34
      have h92 := byte_eq d 92
      rw [show ((92 : UInt8).toNat : Int) = 92 from rfl] at h92
      have h0 := byte_eq d 0
      rw [show ((0 : UInt8).toNat : Int) = 0 from rfl] at h0
      have h96 := byte_eq d 96
      rw [show ((96 : UInt8).toNat : Int) = 96 from rfl] at h96
      have h40 := byte_eq d 40
      rw [show ((40 : UInt8).toNat : Int) = 40 from rfl] at h40
      have h41 := byte_eq d 41
      rw [show ((41 : UInt8).toNat : Int) = 41 from rfl] at h41
      by_cases e40 : d = 40
      · have HAT2 : Hid (s.data.toList[k]? = some 40) := by rw [Hid, HAT.out, e40]
        rw [show (d == 39) = false by rw [e40]; rfl] at h39
        rw [show (d == 34) = false by rw [e40]; rfl] at h34
        rw [show (d == 92) = false by rw [e40]; rfl] at h92
        rw [show (d == 0) = false by rw [e40]; rfl] at h0
        rw [show (d == 96) = false by rw [e40]; rfl] at h96
        rw [show (d == 40) = true by rw [e40]; rfl] at h40
        rw [show (d == 41) = false by rw [e40]; rfl] at h41
        have hop : decide ((o : Int) + 1 < 0) = false := decide_eq_false (by omega)
        clear e40
        go_wp2_with fail
        go_roundw
        case measure => simp [intOf]; omega
        case rel => exact ⟨k + 1, o + 1, by omega, by go_num, by go_num, trivial, HL.out.up HAT2.out⟩
      · by_cases e41 : d = 41
        · have HAT2 : Hid (s.data.toList[k]? = some 41) := by rw [Hid, HAT.out, e41]
          rw [show (d == 39) = false by rw [e41]; rfl] at h39
          rw [show (d == 34) = false by rw [e41]; rfl] at h34
          rw [show (d == 92) = false by rw [e41]; rfl] at h92
          rw [show (d == 0) = false by rw [e41]; rfl] at h0
          rw [show (d == 96) = false by rw [e41]; rfl] at h96
          rw [show (d == 40) = false by rw [e41]; rfl] at h40
          rw [show (d == 41) = true by rw [e41]; rfl] at h41
          clear e41 e40
          cases o with
          | zero =>
            have hop : decide (((0 : Nat) : Int) - 1 < 0) = true := decide_eq_true (by omega)
            go_wp2_with fail
            rw [← HQ.out]; exact ⟨rfl, H1.out⟩
          | succ o =>
            have hw2 : ((o + 1 : Nat) : Int) - 1 = (o : Int) := by omega
            have hop : decide ((o : Int) < 0) = false := decide_eq_false (by omega)
            rw [hw2] at hwd
            clear hw2
            go_wp2_with fail
            go_roundw
            case measure => simp [intOf]; omega
            case rel => exact ⟨k + 1, o, by omega, by go_num, by go_num, trivial, HL.out.down HAT2.out⟩
        · have hop : decide ((o : Int) < 0) = false := decide_eq_false (by omega)
          have HE40 := Lib.hid e40
          have HE41 := Lib.hid e41
          obtain ⟨z39, hz39⟩ : ∃ z, (d == 39) = z := ⟨_, rfl⟩
          rw [hz39] at h39
          have HZ39 := Lib.hid hz39
          clear hz39
          obtain ⟨z34, hz34⟩ : ∃ z, (d == 34) = z := ⟨_, rfl⟩
          rw [hz34] at h34
          have HZ34 := Lib.hid hz34
          clear hz34
          obtain ⟨z92, hz92⟩ : ∃ z, (d == 92) = z := ⟨_, rfl⟩
          rw [hz92] at h92
          have HZ92 := Lib.hid hz92
          clear hz92
          obtain ⟨z0, hz0⟩ : ∃ z, (d == 0) = z := ⟨_, rfl⟩
          rw [hz0] at h0
          have HZ0 := Lib.hid hz0
          clear hz0
          obtain ⟨z96, hz96⟩ : ∃ z, (d == 96) = z := ⟨_, rfl⟩
          rw [hz96] at h96
          have HZ96 := Lib.hid hz96
          clear hz96
          rw [beq_eq_false_iff_ne.2 e40] at h40
          rw [beq_eq_false_iff_ne.2 e41] at h41
          clear e40 e41
          go_wp2_with fail
          all_goals first
            | (rw [← HQ.out]; exact ⟨rfl, H1.out⟩)
            | (go_roundw
               case measure => simp [intOf]; omega
               case rel => exact ⟨k + 1, o, by omega, by go_num, by go_num, trivial, HL.out.on HAT.out HE40.out HE41.out ⟨(fun e => (by first | assumption | exact not_of_false (by assumption) : ¬ z39 = true) (by rw [← HZ39.out, e]; rfl)), (fun e => (by first | assumption | exact not_of_false (by assumption) : ¬ z34 = true) (by rw [← HZ34.out, e]; rfl)), (fun e => (by first | assumption | exact not_of_false (by assumption) : ¬ z92 = true) (by rw [← HZ92.out, e]; rfl)), (fun e => (by first | assumption | exact not_of_false (by assumption) : ¬ z0 = true) (by rw [← HZ0.out, e]; rfl)), (fun e => (by first | assumption | exact not_of_false (by assumption) : ¬ z96 = true) (by rw [← HZ96.out, e]; rfl))⟩⟩)
    · obtain rfl : k = s.size := by omega
      have hltd : decide ((s.size : Int) < (s.size : Int)) = false := decide_eq_false (by omega)
      by_cases ho : o = 0
      · subst ho
        by_cases hh : s.data.toList.head? = some 40
        · have hp : 0 < s.size := by
            rw [← dl]
            cases hx : s.data.toList with
            | nil => rw [hx] at hh; cases hh
            | cons a b => simp
          have hpI : (0 : Int) < (s.size : Int) := by omega
          have hpd : decide ((0 : Int) < (s.size : Int)) = true := decide_eq_true hpI
          have hz : s[0]'hp = 40 := by
            have := data_get s 0 hp
            rw [← List.head?_eq_getElem?, hh] at this
            exact (Option.some.inj this).symm
          have hz2 : (((s[0]'hp).toNat : Int) == 40) = true := by rw [hz]; rfl
          clear hlt hh
          go_wp2_with fail
          rw [← HQ.out]; exact ⟨rfl, H1.out⟩
        · have HH : Hid (false = false → s.data.toList.head? ≠ some 40) := fun _ => hh
          by_cases hp : 0 < s.size
          · have hpI : (0 : Int) < (s.size : Int) := by omega
            have hpd : decide ((0 : Int) < (s.size : Int)) = true := decide_eq_true hpI
            have hz : s[0]'hp ≠ 40 := fun e => by
              have := data_get s 0 hp
              rw [← List.head?_eq_getElem?, e] at this
              exact hh this
            obtain ⟨d0, hd0⟩ : ∃ d0, s[0]'hp = d0 := ⟨_, rfl⟩
            have hz2 : ((d0.toNat : Int) == 40) = false := by
              have h40 := byte_eq d0 40
              rw [show ((40 : UInt8).toNat : Int) = 40 from rfl] at h40
              rw [h40, ← hd0]; exact beq_eq_false_iff_ne.2 hz
            clear hz hh
            have HSO := Lib.hid (HL.out.ok (ck := false) HH.out)
            have HSA := Lib.hid (script_all (ck := false) (quoted := false) HSO.out (by rw [dl]; exact hsl))
            have HW : Hid (∀ (S : ByteArray) (w' : World), S.data.toList = scriptB false false s.data.toList → Calls Try.prog 17 #[.string S] w' fun e w'' => ∃ wa wc F, e = .returned (.tuple #[.slice wa 1 wc, .int .i64 0]) ∧ Wd w'' F (.slice wa 1 wc) [.mk 5 s.data.toList [] [] [] false] ∧ Below w'.heap.size w' w'') := fun S w' hS => by
              refine (Word_ok S w' (l := [scriptP false false s.data.toList]) (by have := congrArg List.length hS; have h2 := scriptB_len false false s.data.toList; rw [dl] at this h2; omega) (by rw [hS]; exact HSA.out.1)).mono ?_
              rintro e w'' ⟨a, c, rfl, h1, h2⟩
              exact ⟨a, c, _, rfl, h1, h2⟩
            have HT : Hid (∀ (S : ByteArray) (w' : World), S.data.toList = scriptB false false s.data.toList ++ [59] → Calls Try.prog 13 #[.string S] w' fun e w'' => ∃ b off c wa wc F, e = .returned (.tuple #[.slice (some ⟨b, off, none⟩) 2 c, .int .i64 0]) ∧ b < w''.heap.size ∧ w''.cell? ⟨b, off + 2, none⟩ = some (.slice wa 1 wc) ∧ Wd w'' F (.slice wa 1 wc) [.mk 5 s.data.toList [] [] [] false] ∧ Below w'.heap.size w' w'') := fun S w' hS => by
              refine (Tokens_ok S w' (l := [.word [scriptP false false s.data.toList], .op [59]]) (by have := congrArg List.length hS; have h2 := scriptB_len false false s.data.toList; rw [List.length_append, dl] at this; rw [dl] at h2; simp at this; omega) (by rw [hS]; exact HSA.out.2)).mono ?_
              rintro e w' ⟨a, c, rfl, h1, h2⟩
              obtain ⟨-, b, off, kk, t, wa, wc, F, rfl, hb, q0, q1, q2, -, -, hw⟩ := h1.cells (i := 0) (by simp)
              simp only [List.getElem_cons_zero, tokW, Nat.zero_mul, Nat.add_zero] at q2 hw
              exact ⟨b, off, c, wa, wc, F, rfl, hb, q2, hw, h2⟩
            have hnb := heap_alloc_new wr (.cells #[.int .i64 5, .string s, .string ⟨#[]⟩, .string ⟨#[]⟩, .slice none 0 0, .bool false] 39)
            have hb0 := (Below.refl wr.heap.size wr).alloc (Nat.le_refl _) (.cells #[.int .i64 5, .string s, .string ⟨#[]⟩, .string ⟨#[]⟩, .slice none 0 0, .bool false] 39)
            have hnb' := hnb
            have hb0' := hb0
            have HNB := Lib.hid (And.intro hnb' hb0')
            have hfr : (wr.alloc (.cells #[.int .i64 5, .string s, .string ⟨#[]⟩, .string ⟨#[]⟩, .slice none 0 0, .bool false] 39)).frozen? ⟨wr.heap.size, 0, none⟩ = false := free_of hnb 0
            clear hnb hb0 hnb' hb0' hlt
            go_wp2_with (first
              | (go_at_call 15; refine (num_any _ _).mono ?_; rintro e w9 ⟨rfl, h9⟩; obtain rfl := h9.symm; simp only [])
              | (go_at_call 17
                 refine (HW.out _ _ ?_).mono ?_
                 · simp [scriptB, bodyB]
                 rintro e w5 ⟨wa2, wc2, F2, rfl, hwd, h2⟩
                 have hb5 := HNB.out.2.trans (h2.mono HNB.out.2.size)
                 have H5 := Lib.hid (And.intro hb5 ((h2.block _ (Array.getElem?_eq_some_iff.1 HNB.out.1).1).trans HNB.out.1))
                 have HWD2 := Lib.hid hwd
                 clear hwd h2 hb5
                 simp only [])
              | (go_at_call 13
                 refine (HT.out _ _ ?_).mono ?_
                 · simp [scriptB, bodyB]
                 rintro e w6 ⟨b, off, c', wa, wc, F, rfl, hb, q2, hwd, h2⟩
                 have hlt5 := (Array.getElem?_eq_some_iff.1 H5.out.2).1
                 have hx6 := (h2.block _ hlt5).trans H5.out.2
                 have a0 : w6.cell? ⟨wr.heap.size, 0, none⟩ = some (.int .i64 5) := Lib.cell_of_heap hx6 0
                 have a1 : w6.cell? ⟨wr.heap.size, 1, none⟩ = some (.string s) := Lib.cell_of_heap hx6 1
                 have a2 : w6.cell? ⟨wr.heap.size, 2, none⟩ = some (.string ⟨#[]⟩) := Lib.cell_of_heap hx6 2
                 have a3 : w6.cell? ⟨wr.heap.size, 3, none⟩ = some (.string ⟨#[]⟩) := Lib.cell_of_heap hx6 3
                 have a4 : w6.cell? ⟨wr.heap.size, 4, none⟩ = some (.slice none 0 0) := Lib.cell_of_heap hx6 4
                 have a5 : w6.cell? ⟨wr.heap.size, 5, none⟩ = some (.bool false) := Lib.cell_of_heap hx6 5
                 have hb6 := H5.out.1.trans (h2.mono H5.out.1.size)
                 have HB6 := Lib.hid hb6
                 have HS1 := Lib.hid (fun w' hw => same_pt (w' := w') 5 5 rfl s false (HWD2.out.under h2) hw)
                 have HWD1 := Lib.hid hwd
                 have HWD26 := Lib.hid (HWD2.out.under h2)
                 have ad0 := addn b off 0
                 rw [Nat.add_zero] at ad0
                 clear h2 hwd hb6 hx6 hlt5
                 simp only [])
              | (go_at_call 18
                 (with_reducible refine (HS1.out _ (Below.refl _ _)).mono ?_)
                 rintro e w8 ⟨rfl, h2⟩
                 have h3 := after_new h2
                 have q28 := cell_under h3 hb q2
                 have HS2 := Lib.hid (Same_eq (w := w8) (by rw [wsz_prt]; decide) (HWD1.out.under h3) (HWD26.out.under h3))
                 have H8 := Lib.hid h3
                 clear h2 h3 q2
                 simp only [])
              | (go_at_call 18
                 (with_reducible refine HS2.out.mono ?_)
                 rintro e w9 ⟨rfl, h2⟩
                 have H9 := Lib.hid (H8.out.trans (h2.mono H8.out.size))
                 clear h2
                 simp only []))
            rw [← HQ.out]
            exact ⟨rfl, H1.out.trans ((HB6.out.trans (H9.out.mono HB6.out.size)).mono H1.out.size)⟩
          · have hpI : ¬ (0 : Int) < (s.size : Int) := by omega
            have hpd : decide ((0 : Int) < (s.size : Int)) = false := decide_eq_false hpI
            clear hh
            have HSO := Lib.hid (HL.out.ok (ck := false) HH.out)
            have HSA := Lib.hid (script_all (ck := false) (quoted := false) HSO.out (by rw [dl]; exact hsl))
            have HW : Hid (∀ (S : ByteArray) (w' : World), S.data.toList = scriptB false false s.data.toList → Calls Try.prog 17 #[.string S] w' fun e w'' => ∃ wa wc F, e = .returned (.tuple #[.slice wa 1 wc, .int .i64 0]) ∧ Wd w'' F (.slice wa 1 wc) [.mk 5 s.data.toList [] [] [] false] ∧ Below w'.heap.size w' w'') := fun S w' hS => by
              refine (Word_ok S w' (l := [scriptP false false s.data.toList]) (by have := congrArg List.length hS; have h2 := scriptB_len false false s.data.toList; rw [dl] at this h2; omega) (by rw [hS]; exact HSA.out.1)).mono ?_
              rintro e w'' ⟨a, c, rfl, h1, h2⟩
              exact ⟨a, c, _, rfl, h1, h2⟩
            have HT : Hid (∀ (S : ByteArray) (w' : World), S.data.toList = scriptB false false s.data.toList ++ [59] → Calls Try.prog 13 #[.string S] w' fun e w'' => ∃ b off c wa wc F, e = .returned (.tuple #[.slice (some ⟨b, off, none⟩) 2 c, .int .i64 0]) ∧ b < w''.heap.size ∧ w''.cell? ⟨b, off + 2, none⟩ = some (.slice wa 1 wc) ∧ Wd w'' F (.slice wa 1 wc) [.mk 5 s.data.toList [] [] [] false] ∧ Below w'.heap.size w' w'') := fun S w' hS => by
              refine (Tokens_ok S w' (l := [.word [scriptP false false s.data.toList], .op [59]]) (by have := congrArg List.length hS; have h2 := scriptB_len false false s.data.toList; rw [List.length_append, dl] at this; rw [dl] at h2; simp at this; omega) (by rw [hS]; exact HSA.out.2)).mono ?_
              rintro e w' ⟨a, c, rfl, h1, h2⟩
              obtain ⟨-, b, off, kk, t, wa, wc, F, rfl, hb, q0, q1, q2, -, -, hw⟩ := h1.cells (i := 0) (by simp)
              simp only [List.getElem_cons_zero, tokW, Nat.zero_mul, Nat.add_zero] at q2 hw
              exact ⟨b, off, c, wa, wc, F, rfl, hb, q2, hw, h2⟩
            have hnb := heap_alloc_new wr (.cells #[.int .i64 5, .string s, .string ⟨#[]⟩, .string ⟨#[]⟩, .slice none 0 0, .bool false] 39)
            have hb0 := (Below.refl wr.heap.size wr).alloc (Nat.le_refl _) (.cells #[.int .i64 5, .string s, .string ⟨#[]⟩, .string ⟨#[]⟩, .slice none 0 0, .bool false] 39)
            have hnb' := hnb
            have hb0' := hb0
            have HNB := Lib.hid (And.intro hnb' hb0')
            have hfr : (wr.alloc (.cells #[.int .i64 5, .string s, .string ⟨#[]⟩, .string ⟨#[]⟩, .slice none 0 0, .bool false] 39)).frozen? ⟨wr.heap.size, 0, none⟩ = false := free_of hnb 0
            clear hnb hb0 hnb' hb0' hlt
            go_wp2_with (first
              | (go_at_call 15; refine (num_any _ _).mono ?_; rintro e w9 ⟨rfl, h9⟩; obtain rfl := h9.symm; simp only [])
              | (go_at_call 17
                 refine (HW.out _ _ ?_).mono ?_
                 · simp [scriptB, bodyB]
                 rintro e w5 ⟨wa2, wc2, F2, rfl, hwd, h2⟩
                 have hb5 := HNB.out.2.trans (h2.mono HNB.out.2.size)
                 have H5 := Lib.hid (And.intro hb5 ((h2.block _ (Array.getElem?_eq_some_iff.1 HNB.out.1).1).trans HNB.out.1))
                 have HWD2 := Lib.hid hwd
                 clear hwd h2 hb5
                 simp only [])
              | (go_at_call 13
                 refine (HT.out _ _ ?_).mono ?_
                 · simp [scriptB, bodyB]
                 rintro e w6 ⟨b, off, c', wa, wc, F, rfl, hb, q2, hwd, h2⟩
                 have hlt5 := (Array.getElem?_eq_some_iff.1 H5.out.2).1
                 have hx6 := (h2.block _ hlt5).trans H5.out.2
                 have a0 : w6.cell? ⟨wr.heap.size, 0, none⟩ = some (.int .i64 5) := Lib.cell_of_heap hx6 0
                 have a1 : w6.cell? ⟨wr.heap.size, 1, none⟩ = some (.string s) := Lib.cell_of_heap hx6 1
                 have a2 : w6.cell? ⟨wr.heap.size, 2, none⟩ = some (.string ⟨#[]⟩) := Lib.cell_of_heap hx6 2
                 have a3 : w6.cell? ⟨wr.heap.size, 3, none⟩ = some (.string ⟨#[]⟩) := Lib.cell_of_heap hx6 3
                 have a4 : w6.cell? ⟨wr.heap.size, 4, none⟩ = some (.slice none 0 0) := Lib.cell_of_heap hx6 4
                 have a5 : w6.cell? ⟨wr.heap.size, 5, none⟩ = some (.bool false) := Lib.cell_of_heap hx6 5
                 have hb6 := H5.out.1.trans (h2.mono H5.out.1.size)
                 have HB6 := Lib.hid hb6
                 have HS1 := Lib.hid (fun w' hw => same_pt (w' := w') 5 5 rfl s false (HWD2.out.under h2) hw)
                 have HWD1 := Lib.hid hwd
                 have HWD26 := Lib.hid (HWD2.out.under h2)
                 have ad0 := addn b off 0
                 rw [Nat.add_zero] at ad0
                 clear h2 hwd hb6 hx6 hlt5
                 simp only [])
              | (go_at_call 18
                 (with_reducible refine (HS1.out _ (Below.refl _ _)).mono ?_)
                 rintro e w8 ⟨rfl, h2⟩
                 have h3 := after_new h2
                 have q28 := cell_under h3 hb q2
                 have HS2 := Lib.hid (Same_eq (w := w8) (by rw [wsz_prt]; decide) (HWD1.out.under h3) (HWD26.out.under h3))
                 have H8 := Lib.hid h3
                 clear h2 h3 q2
                 simp only [])
              | (go_at_call 18
                 (with_reducible refine HS2.out.mono ?_)
                 rintro e w9 ⟨rfl, h2⟩
                 have H9 := Lib.hid (H8.out.trans (h2.mono H8.out.size))
                 clear h2
                 simp only []))
            rw [← HQ.out]
            exact ⟨rfl, H1.out.trans ((HB6.out.trans (H9.out.mono HB6.out.size)).mono H1.out.size)⟩
      · have hoI : ((o : Int) == 0) = false := beq_eq_false_iff_ne.2 (by omega)
        clear hlt
        go_wp2_with fail
        rw [← HQ.out]; exact ⟨rfl, H1.out⟩
theorem scripts_walk (s : ByteArray) (ck q : Bool) (w : World) (hs : s.size ≤ maxLen) : Calls Try.prog 11 #[.string s, .bool ck, .bool q] w (SayPq w) := by
  cases ck <;> cases q
  · exact scripts_ff s w hs
  · exact scripts_ft s w hs
  · exact scripts_tf s w hs
  · exact scripts_tt s w hs
end Go.Proofs.Ytafbheplaheohaa
