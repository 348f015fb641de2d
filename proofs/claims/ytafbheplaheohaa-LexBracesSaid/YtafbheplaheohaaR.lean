import Derived.Test.YtafbheplaheohaaP
namespace Go.Proofs.Ytafbheplaheohaa
open Go.RowKit
set_option linter.unusedVariables false

def subF (s : Bz) : Res (Prt × Bz) := match subN 0 0 s with
  | none => .error 2
  | some i => .ok (.mk 5 (s.take i) [] [] [] false, s.drop (i + 1))
theorem subN_skip : ∀ (n o : Nat) (l : Bz), subN o n l = if n ≤ l.length then (subN o 0 (l.drop n)).map (· + n) else none
  | 0, o, l => by rw [if_pos (Nat.zero_le _), List.drop_zero]; cases subN o 0 l <;> rfl
  | n + 1, o, [] => by rw [if_neg (by simp)]; rfl
  | n + 1, o, c :: l => by
    show (subN o n l).map (· + 1) = _
    rw [subN_skip n o l]
    by_cases h : n ≤ l.length
    · rw [if_pos h, if_pos (by simpa using h), List.drop_succ_cons]
      cases subN o 0 (l.drop n) with
      | none => rfl
      | some a => simp; omega
    · rw [if_neg h, if_neg (by simpa using h)]; rfl
theorem quotT_le : ∀ (q : UInt8) (b : Bool) (l : Bz), quotT q b l ≤ l.length + 1
  | _, b, [] => by cases b <;> exact Nat.le_refl _
  | q, true, c :: l => by
    have := quotT_le q false l
    show quotT q false l + 1 ≤ _
    simp; exact this
  | q, false, c :: l => by
    have h1 := quotT_le q false l
    have h2 := quotT_le q true l
    rw [quotT_false]
    split
    · simp
    · split <;> simp <;> assumption
/-- Where a script goes on. -/
def SubAt (X : ByteArray) (o k : Nat) : Prop := (k ≤ X.size → subN 0 0 X.data.toList = (subN o 0 (X.data.toList.drop k)).map (· + k)) ∧ (X.size < k → subN 0 0 X.data.toList = none)
theorem sub_skip {X : ByteArray} {o k n : Nat} (hk : k < X.size) (h : subN 0 0 X.data.toList = ((subN o n (X.data.toList.drop (k + 1))).map (· + 1)).map (· + k)) : SubAt X o (k + 1 + n) := by
  rw [subN_skip n o (X.data.toList.drop (k + 1))] at h
  have hl : (X.data.toList.drop (k + 1)).length = X.size - (k + 1) := by rw [List.length_drop, dl]
  refine ⟨fun h1 => ?_, fun h1 => ?_⟩
  · rw [if_pos (by omega)] at h
    rw [h, List.drop_drop]
    cases subN o 0 (X.data.toList.drop (k + 1 + n)) with
    | none => rfl
    | some a => simp; omega
  · rw [if_neg (by omega)] at h
    rw [h]; rfl
set_option maxRecDepth 100000 in
set_option maxHeartbeats 8000000 in
theorem sub_any {w : World} {rb a : Nat} {S : ByteArray} (hr : Rd w rb S a) (ha : a ≤ S.size) (hs : S.size ≤ 20000) :
    Calls Try.prog 61 #[.pointer (some ⟨rb, 0, none⟩)] w (PartP w rb S (subF (S.data.toList.drop a))) := by
  obtain ⟨Q, hQ⟩ : ∃ Q, PartP w rb S (subF (S.data.toList.drop a)) = Q := ⟨_, rfl⟩
  rw [hQ]
  have HQ := Lib.hid hQ
  have hx := ext_end (t := S) (a := a) ha
  obtain ⟨X, hX⟩ : ∃ X, S.extract a S.size = X := ⟨_, rfl⟩
  rw [hX] at hx
  have HRD := Lib.hid hr
  have HREST := Lib.hid (fun w1 (hb : Below w.heap.size w w1) => rest_any rb S a w1 (hr.under hb) ha hs)
  rw [hX] at HREST
  have hXs : X.size ≤ 20000 := by omega
  have hXa : a + X.size ≤ S.size := by omega
  have HXD : Hid (X.data.toList = S.data.toList.drop a) := hx.1
  have hrl := blk_lt hr
  have HHP := Lib.hid (fun s p w => Try.strings_HasPrefix s p w)
  clear hQ hx hr hX
  go_enter Try.func61, Try.ntmps61
  go_wp2_with (go_at_call 21; refine (HREST.out _ ((Below.refl _ _).alloc (Nat.le_refl _) _)).mono ?_; rintro e w1 ⟨rfl, h1⟩; have hbox := (h1.block w.heap.size (by simp)).trans (heap_alloc_new w _); have H1 : Hid (Below w.heap.size w w1) := ((Below.refl _ w).alloc (Nat.le_refl _) _).trans (h1.mono (by simp)); have HBOX := Lib.hid hbox; clear h1 hbox; simp only [])
  have hrd1 := HRD.out.under H1.out
  have q1 : w1.cell? ⟨rb, 1, none⟩ = some (.int .i64 a) := cell_of hrd1 1
  have f1 := free_of hrd1 1
  obtain ⟨nb, hnb⟩ : ∃ nb, w.heap.size = nb := ⟨_, rfl⟩
  have hne : rb ≠ nb := by omega
  have hne' : nb ≠ rb := fun e => hne e.symm
  rw [hnb] at HBOX ⊢
  obtain ⟨b0, b1, b2, b3, b4, b5, u0, u1, u2, u3, u4, u5⟩ := box_facts HBOX.out
  have HRD1 := Lib.hid hrd1
  have HNB := Lib.hid hnb
  have HCF : Hid ((∀ x, subN 0 0 X.data.toList = none → x = subF (S.data.toList.drop a) → x = .error 2) ∧ ∀ i, subN 0 0 X.data.toList = some i → subF (S.data.toList.drop a) = .ok (.mk 5 (X.data.toList.take i) [] [] [] false, X.data.toList.drop (i + 1))) := by
    refine ⟨fun x h1 h2 => ?_, fun i h1 => ?_⟩
    · rw [h2, ← HXD.out, subF, h1]
    · rw [← HXD.out, subF, h1]
  have HOUT : Hid (∀ (w2 w3 : World) e, subN 0 0 X.data.toList = none → Only (fun k => k = rb) w w3 → Rd w3 rb S a → e = .returned (.tuple #[zeroV, .int .i64 2]) → Q e w3) := by
    intro w2 w3 e h1 h2 h3 h4
    rw [← HQ.out, HCF.out.1 _ h1 rfl, h4]
    exact ⟨rfl, by decide, h2, a, h3, by omega⟩
  clear hrd1 hnb
  clear b0 b1 b2 b3 b4 b5 u0 u1 u2 u3 u4 u5 q1 f1
  have hn1 : nb < w1.heap.size := blk_lt (cs := [.int .i64 0, .string ⟨#[]⟩, .string ⟨#[]⟩, .string ⟨#[]⟩, .slice none 0 0, .bool false]) HBOX.out
  go_loopw [5, 6] (fun op ct wx => ∃ (k o : Nat), op = .int .i64 o ∧ ct = .int .i64 k ∧ k ≤ X.size + 1 ∧ o ≤ k ∧ Below w1.heap.size w1 wx ∧ Hid (SubAt X o k)) (fun _ ct _ => X.size + 2 - (intOf ct).toNat)
  case atStart => exact ⟨0, 0, rfl, rfl, Nat.zero_le _, Nat.le_refl _, Below.refl _ _, fun _ => by rw [List.drop_zero]; cases subN 0 0 X.data.toList <;> rfl, fun h => by omega⟩
  case round =>
    obtain ⟨k, o, rfl, rfl, hk, ho, hbel, HK⟩ := hrel
    have hk0 : (0 : Int) ≤ (k : Int) := by omega
    have HBE := Lib.hid hbel
    have HBX := (hbel.block nb hn1).trans HBOX.out
    obtain ⟨b0, b1, b2, b3, b4, b5, u0, u1, u2, u3, u4, u5⟩ := box_facts HBX
    have hrd1 := HRD1.out.under hbel
    have q1 : wr.cell? ⟨rb, 1, none⟩ = some (.int .i64 a) := cell_of hrd1 1
    have f1 := free_of hrd1 1
    have HRDX := Lib.hid hrd1
    have HOX : Hid (Only (fun k => k = rb) w wr) := Only.of_below (H1.out.trans (hbel.mono H1.out.size))
    clear hbel HBX hrd1
    by_cases hlt : k < X.size
    · have hltI : (k : Int) < (X.size : Int) := by omega
      have hltd : decide ((k : Int) < (X.size : Int)) = true := decide_eq_true hltI
      have hat := data_get X k hlt
      obtain ⟨c, hc⟩ : ∃ c, X[k]'hlt = c := ⟨_, rfl⟩
      rw [hc] at hat
      have hdr := at_drop hat
      have hb64 : IntKind.i64.wrap ((k : Int) + 1) = (k : Int) + 1 := IntWalk.i64_in _ (by omega)
      have h40 := byte_eq c 40
      rw [show ((40 : UInt8).toNat : Int) = 40 from rfl] at h40
      have h41 := byte_eq c 41
      rw [show ((41 : UInt8).toNat : Int) = 41 from rfl] at h41
      have h92 := byte_eq c 92
      rw [show ((92 : UInt8).toNat : Int) = 92 from rfl] at h92
      have h39 := byte_eq c 39
      rw [show ((39 : UInt8).toNat : Int) = 39 from rfl] at h39
      have h34 := byte_eq c 34
      rw [show ((34 : UInt8).toNat : Int) = 34 from rfl] at h34
      have HK2 : Hid (subN 0 0 X.data.toList = (subN o 0 (c :: X.data.toList.drop (k + 1))).map (· + k)) := by rw [Hid, HK.out.1 (by omega), hdr]
      have one : ∀ o', subN 0 0 X.data.toList = ((subN o' 0 (X.data.toList.drop (k + 1))).map (· + 1)).map (· + k) → SubAt X o' (k + 1) := fun o' h => by
        have := sub_skip (n := 0) hlt h
        exact this
      have ONE := Lib.hid one
      have HDR := Lib.hid hdr
      clear hat hdr one
      by_cases e40 : c = 40
      · have hz : ((c.toNat : Int) == 40) = true := by rw [h40, e40]; rfl
        have HN : Hid (SubAt X (o + 1) (k + 1)) := ONE.out _ (by rw [HK2.out, subN_cons, if_pos e40])
        have ho1 : IntKind.i64.wrap ((o : Int) + 1) = (o : Int) + 1 := IntWalk.i64_in _ (by omega)
        clear h40 h41 h92 h39 h34 e40
        go_wp2_with fail
        go_roundw
        case measure => simp [intOf]; omega
        case rel => exact ⟨k + 1, o + 1, by go_num, by go_num, by omega, by omega, HBE.out, HN.out⟩
      have hz : ((c.toNat : Int) == 40) = false := by rw [h40]; simpa using e40
      by_cases e41 : c = 41
      · have hz1 : ((c.toNat : Int) == 41) = true := by rw [h41, e41]; rfl
        cases o with
        | succ o =>
          have HN : Hid (SubAt X o (k + 1)) := ONE.out _ (by rw [HK2.out, subN_cons, if_neg e40, if_pos e41])
          have ho1 : IntKind.i64.wrap (((o + 1 : Nat) : Int) - 1) = (o : Int) := by rw [show ((o + 1 : Nat) : Int) - 1 = (o : Int) by omega]; exact IntWalk.i64_in _ (by omega)
          have hoz : (((o + 1 : Nat) : Int) == 0) = false := by simp; omega
          clear h40 h41 h92 h39 h34 e40 e41
          go_wp2_with fail
          go_roundw
          case measure => simp [intOf]; omega
          case rel => exact ⟨k + 1, o, by go_num, by go_num, by omega, by omega, HBE.out, HN.out⟩
        | zero =>
          have HN : Hid (subN 0 0 X.data.toList = some k) := by rw [Hid, HK2.out, subN_cons, if_neg e40, if_pos e41]; simp
          have hw2 : IntKind.i64.wrap ((a : Int) + ((k : Int) + 1)) = (a : Int) + ((k : Int) + 1) := IntWalk.i64_in _ (by omega)
          have hkI : (k : Int) ≤ (X.size : Int) := by omega
          clear h40 h41 h92 h39 h34 e40 e41
          go_wp2_with fail
          have hcast : (a : Int) + ((k : Int) + 1) = ((a + (k + 1) : Nat) : Int) := by omega
          have hE := ext_dt (t := X) (a := 0) (b := k) (Nat.zero_le _) (by omega)
          rw [List.drop_zero] at hE
          refine bodyPost_ret (v := .tuple #[.agg #[.int .i64 5, .string (X.extract 0 k), .string ⟨#[]⟩, .string ⟨#[]⟩, .slice none 0 0, .bool false], .int .i64 0]) ?_ rfl ?_
          · simp [results, Try.results61, go_sem, b0, b1, b2, b3, b4, b5]
          · rw [← HQ.out, HCF.out.2 k HN.out, hcast]
            refine ⟨put6_only (HOX.out.set (g := rb) (.inl rfl) 1 _) (by rw [HNB.out]; exact Nat.le_refl _) ⟨5, X.extract 0 k, ⟨#[]⟩, ⟨#[]⟩, .slice none 0 0, false⟩, ⟨5, X.extract 0 k, ⟨#[]⟩, ⟨#[]⟩, .slice none 0 0, false⟩, a + (k + 1), rfl, ⟨rfl, hE.1, rfl, rfl, rfl⟩, .nil 0, (HRDX.out.set (a + (k + 1))).put6 hne ⟨5, X.extract 0 k, ⟨#[]⟩, ⟨#[]⟩, .slice none 0 0, false⟩, by omega, ?_⟩
            rw [HXD.out, List.drop_drop]
      have hz1 : ((c.toNat : Int) == 41) = false := by rw [h41]; simpa using e41
      by_cases e92 : c = 92
      · have hz2 : ((c.toNat : Int) == 92) = true := by rw [h92, e92]; rfl
        have HN : Hid (SubAt X o (k + 2)) := sub_skip (n := 1) hlt (by rw [HK2.out, subN_cons, if_neg e40, if_neg e41, if_pos e92])
        have hb65 : IntKind.i64.wrap ((k : Int) + 1 + 1) = (k : Int) + 1 + 1 := IntWalk.i64_in _ (by omega)
        clear h40 h41 h92 h39 h34 e40 e41 e92
        go_wp2_with fail
        go_roundw
        case measure => simp [intOf]; omega
        case rel => exact ⟨k + 2, o, rfl, by go_num, by omega, by omega, HBE.out, HN.out⟩
      have hz2 : ((c.toNat : Int) == 92) = false := by rw [h92]; simpa using e92
      by_cases e39 : c = 39 ∨ c = 34
      · obtain ⟨n, hn⟩ : ∃ n, quotT c false (X.data.toList.drop (k + 1)) = n := ⟨_, rfl⟩
        have hnl := quotT_le c false (X.data.toList.drop (k + 1))
        rw [hn, List.length_drop, dl] at hnl
        have HN : Hid (SubAt X o (k + 1 + n)) := sub_skip (n := n) hlt (by rw [HK2.out, subN_cons, if_neg e40, if_neg e41, if_neg e92, if_pos e39, hn])
        have hY := ext_end (t := X) (a := k) (by omega)
        obtain ⟨Y, hYY⟩ : ∃ Y, X.extract k X.size = Y := ⟨_, rfl⟩
        rw [hYY] at hY
        have hY0 : 0 < Y.size := by omega
        have hYc : Y[0]'hY0 = c := by
          have h1 := data_get Y 0 hY0
          rw [hY.1, HDR.out] at h1
          injection h1 with h1
          exact h1.symm
        have hYd : Y.data.toList.drop 1 = X.data.toList.drop (k + 1) := by rw [hY.1, List.drop_drop]
        have HQT := Lib.hid (fun w => quotation_any Y (by omega) hY0 c hYc w)
        rw [hYd, hn] at HQT
        have hb65 : IntKind.i64.wrap ((k : Int) + (n : Int)) = (k : Int) + (n : Int) := IntWalk.i64_in _ (by omega)
        have hb66 : IntKind.i64.wrap ((k : Int) + (n : Int) + 1) = (k : Int) + (n : Int) + 1 := IntWalk.i64_in _ (by omega)
        have hb67 : IntKind.i64.wrap ((n : Int) + 1 - 1) = (n : Int) := by rw [show (n : Int) + 1 - 1 = (n : Int) by omega]; exact IntWalk.i64_in _ (by omega)
        have hkI : (k : Int) ≤ (X.size : Int) := by omega
        obtain ⟨z9, hz9⟩ : ∃ z, (c == 39) = z := ⟨_, rfl⟩
        obtain ⟨z4, hz4⟩ : ∃ z, (c == 34) = z := ⟨_, rfl⟩
        rw [hz9] at h39
        rw [hz4] at h34
        have hzz : z9 = true ∨ z4 = true := by rw [← hz9, ← hz4]; simpa using e39
        have hn7 : k + n ≤ X.size := by omega
        clear h40 h41 h92 e40 e41 e92 e39 hn hz9 hz4 hnl
        cases z9 <;> cases z4 <;> simp at hzz
        all_goals
          go_wp2_with (go_at_call 77; refine (HQT.out _).mono ?_; rintro e w5 ⟨rfl, h5⟩; have H5 := Lib.hid h5; clear h5; simp only [])
          go_roundw
          case measure => simp [intOf]; omega
          case rel => exact ⟨k + 1 + n, o, rfl, by go_num, by omega, by omega, HBE.out.trans (H5.out.mono HBE.out.size), HN.out⟩
      have hz3 : ((c.toNat : Int) == 39) = false := by rw [h39]; simpa using fun e => e39 (.inl e)
      have hz4 : ((c.toNat : Int) == 34) = false := by rw [h34]; simpa using fun e => e39 (.inr e)
      have HN : Hid (SubAt X o (k + 1)) := ONE.out _ (by rw [HK2.out, subN_cons, if_neg e40, if_neg e41, if_neg e92, if_neg e39])
      clear h40 h41 h92 h39 h34 e40 e41 e92 e39
      go_wp2_with fail
      go_roundw
      case measure => simp [intOf]; omega
      case rel => exact ⟨k + 1, o, rfl, by go_num, by omega, by omega, HBE.out, HN.out⟩
    · have hltd : decide ((k : Int) < (X.size : Int)) = false := decide_eq_false (by omega)
      have HN : Hid (subN 0 0 X.data.toList = none) := by
        by_cases hkx : k = X.size
        · rw [Hid, HK.out.1 (by omega), List.drop_of_length_le (by rw [dl]; omega)]; rfl
        · exact HK.out.2 (by omega)
      go_wp2_with fail
      refine bodyPost_ret (v := .tuple #[zeroV, .int .i64 2]) ?_ rfl ?_
      · simp [results, Try.results61, go_sem, b0, b1, b2, b3, b4, b5]
        rfl
      · exact HOUT.out wr (put6 wr nb 0 pt0) _ HN.out (put6_only HOX.out (by rw [HNB.out]; exact Nat.le_refl _) pt0) (HRDX.out.put6 hne pt0) rfl
end Go.Proofs.Ytafbheplaheohaa
