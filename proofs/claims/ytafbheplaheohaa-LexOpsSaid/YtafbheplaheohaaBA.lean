import Derived.Test.YtafbheplaheohaaAA
namespace Go.Proofs.Ytafbheplaheohaa
open Go.RowKit
set_option linter.unusedVariables false

theorem sk_cons (c : UInt8) (r : Bz) : skipF false (c :: r) = if isBlank c then skipF false r else if c = 92 then (match r with | [] => c :: r | c' :: r' => if c' = 10 then skipF false r' else c :: r) else if c = 35 then skipF true r else c :: r := by cases r <;> rfl
theorem sk_cut : ∀ (l : Bz), skipF true l = (match cutAt 10 l with | none => [] | some (t, _) => l.drop t.length)
  | [] => rfl
  | c :: r => by
    by_cases h : c = 10
    · subst h; rfl
    · have := sk_cut r
      show (if c = 10 then c :: r else skipF true r) = _
      rw [if_neg h, this]
      show _ = match cutAt 10 (c :: r) with | none => [] | some (t, _) => (c :: r).drop t.length
      rw [show cutAt 10 (c :: r) = if c = 10 then some ([], r) else (cutAt 10 r).map fun x => (c :: x.1, x.2) from by rw [cutAt], if_neg h]
      cases cutAt 10 r with
      | none => rfl
      | some z => rfl
theorem sk_stop : ∀ (l : Bz), skipF false (skipF true l) = skipF true l
  | [] => rfl
  | c :: r => by
    show skipF false (if c = 10 then c :: r else skipF true r) = if c = 10 then c :: r else skipF true r
    by_cases h : c = 10
    · subst h; rw [if_pos rfl]; cases r <;> rfl
    · rw [if_neg h]; exact sk_stop r
theorem sk_bl {c : UInt8} {r : Bz} (h : isBlank c = true) : skipF false (c :: r) = skipF false r := by rw [sk_cons, if_pos h]
theorem sk_nl {r : Bz} : skipF false (92 :: 10 :: r) = skipF false r := by rw [sk_cons, if_neg (by decide), if_pos rfl]; rfl
theorem sk_co {r : Bz} : skipF false (35 :: r) = skipF true (35 :: r) := by rw [sk_cons, if_neg (by decide), if_neg (by decide), if_pos rfl]; rfl
theorem sk_no {c : UInt8} {r : Bz} (h : isBlank c = false) (h1 : ¬ (c = 92 ∧ r.head? = some 10)) (h2 : c ≠ 35) : skipF false (c :: r) = c :: r := by
  rw [sk_cons, if_neg (by simp [h])]
  by_cases h3 : c = 92
  · subst h3
    rw [if_pos rfl]
    cases r with
    | nil => rfl
    | cons d r =>
      have : d ≠ 10 := fun e => h1 ⟨rfl, by rw [e]; rfl⟩
      simp only [if_neg this]
  · rw [if_neg h3, if_neg h2]
theorem sk_line {X : ByteArray} {r : Bz} (h : X.data.toList = 35 :: r) : skipF false X.data.toList = skipF false (X.data.toList.drop (cutA 10 X).1.size) ∧ (cutA 10 X).1.size ≤ X.size ∧ 0 < (cutA 10 X).1.size := by
  have h0 : 0 < (cutA 10 X).1.size := by
    unfold cutA
    cases hc : cutAt 10 X.data.toList with
    | none => show 0 < X.size; rw [← dl, h]; simp
    | some z =>
      obtain ⟨t, r'⟩ := z
      have h2 := (cutAt_eq hc).1
      show 0 < (⟨t.toArray⟩ : ByteArray).size
      rw [sz_mk]
      cases t with
      | nil => rw [h] at h2; simp at h2
      | cons a b => simp
  have h1 : skipF true X.data.toList = X.data.toList.drop (cutA 10 X).1.size ∧ (cutA 10 X).1.size ≤ X.size := by
    rw [sk_cut]; unfold cutA
    cases hc : cutAt 10 X.data.toList with
    | none => exact ⟨(List.drop_of_length_le (by rw [dl]; exact Nat.le_refl _)).symm, Nat.le_refl _⟩
    | some z =>
      obtain ⟨t, r'⟩ := z
      have h2 := congrArg List.length (cutAt_eq hc).1
      rw [dl] at h2
      simp at h2
      exact ⟨by simp only [sz_mk], by simp only [sz_mk]; omega⟩
  refine ⟨?_, h1.2, h0⟩
  rw [← h1.1, sk_stop, h, sk_co]
/-- Where the skipping has come to. -/
structure Sk (w wx : World) (rb : Nat) (S : ByteArray) (a a' : Nat) : Prop where
  rd : Rd wx rb S a'
  le : a' ≤ S.size
  ge : a ≤ a'
  only : Only (fun k => k = rb) w wx
  eq : skipF false (S.data.toList.drop a) = skipF false (S.data.toList.drop a')
theorem Sk.under {w wx w' : World} {rb a a' : Nat} {S : ByteArray} (h : Sk w wx rb S a a') (hb : Below wx.heap.size wx w') : Sk w w' rb S a a' :=
  ⟨h.rd.under hb, h.le, h.ge, h.only.trans (Only.of_below (S := fun _ => False) hb) (fun _ h => h) (fun _ _ h => h.elim), h.eq⟩
theorem Sk.step {w wx : World} {rb a a' : Nat} {S : ByteArray} (h : Sk w wx rb S a a') (n : Nat) (hn : a' + n ≤ S.size) {ai : Int} (e : ai = ((a' + n : Nat) : Int)) (heq : skipF false (S.data.toList.drop a') = skipF false (S.data.toList.drop (a' + n))) : Sk w (wx.setCell ⟨rb, 1, none⟩ (.int .i64 ai)) rb S a (a' + n) :=
  ⟨h.rd.setI _ e, hn, by have := h.ge; omega, h.only.set (.inl rfl) _ _, h.eq.trans heq⟩
def SkP (w : World) (rb : Nat) (S : ByteArray) (a : Nat) (e : Ending) (w' : World) : Prop := e = .returned (.tuple #[]) ∧ ∃ a', Sk w w' rb S a a' ∧ S.data.toList.drop a' = skipF false (S.data.toList.drop a)
set_option maxRecDepth 100000 in
set_option maxHeartbeats 8000000 in
theorem skip_any {w : World} {rb a : Nat} {S : ByteArray} (hr : Rd w rb S a) (ha : a ≤ S.size) (hs : S.size ≤ 20000) : Calls Try.prog 20 #[.pointer (some ⟨rb, 0, none⟩)] w (SkP w rb S a) := by
  obtain ⟨Q, hQ⟩ : ∃ Q, SkP w rb S a = Q := ⟨_, rfl⟩
  rw [hQ]
  have HQ := Lib.hid hQ
  have H0 : Hid (Sk w w rb S a a) := ⟨hr, ha, Nat.le_refl _, Only.refl _ _, rfl⟩
  have HRESTA := Lib.hid (fun (a1 : Nat) (w1 : World) (h : Rd w1 rb S a1) (h1 : a1 ≤ S.size) => rest_any rb S a1 w1 h h1 hs)
  clear hQ hr
  go_enter Try.func20, Try.ntmps20
  go_wp2_with fail
  go_loopw [] (fun wx => ∃ a', Hid (Sk w wx rb S a a')) (fun wx => mea rb (.int .i64 0) wx)
  case atStart => exact ⟨a, H0.out⟩
  case round =>
    obtain ⟨a', HS⟩ := hrel
    have q0 : wr.cell? ⟨rb, 0, none⟩ = some (.string S) := cell_of HS.out.rd 0
    have q1 : wr.cell? ⟨rb, 1, none⟩ = some (.int .i64 a') := cell_of HS.out.rd 1
    have hle := HS.out.le
    by_cases hlt : a' < S.size
    · have hltI : (a' : Int) < (S.size : Int) := by omega
      have hltd : decide ((a' : Int) < (S.size : Int)) = true := decide_eq_true hltI
      go_wp2_with fail
      go_quiet (fail)
      have hbn := drew_below wr nq
      obtain ⟨w5, hw5⟩ : ∃ wv, World.drewN wr nq = wv := ⟨_, rfl⟩
      rw [hw5] at hbn ⊢
      have HS5 := Lib.hid (HS.out.under hbn)
      clear hw5 hbn q0 q1
      have hX := ext_end (t := S) (a := a') hle
      have HR3 : Hid (Calls Try.prog 21 #[.pointer (some ⟨rb, 0, none⟩)] w5 fun e w' => e = .returned (.string (S.extract a' S.size)) ∧ Below w5.heap.size w5 w') := HRESTA.out a' w5 HS5.out.rd hle
      obtain ⟨X, hXX⟩ : ∃ X, S.extract a' S.size = X := ⟨_, rfl⟩
      rw [hXX] at HR3 hX
      have hX0 : 0 < X.size := by omega
      have hX0I : (0 : Int) < (X.size : Int) := by omega
      have hat := data_get X 0 hX0
      obtain ⟨c, hc⟩ : ∃ c, X[0]'hX0 = c := ⟨_, rfl⟩
      rw [hc] at hat
      have hxd : X.data.toList = c :: X.data.toList.drop 1 := at_drop hat
      have hx1 : X.data.toList.drop 1 = S.data.toList.drop (a' + 1) := by rw [hX.1, List.drop_drop]
      have HDR : Hid (S.data.toList.drop a' = c :: S.data.toList.drop (a' + 1)) := by rw [Hid, ← hX.1, ← hx1]; exact hxd
      have HXD : Hid (X.data.toList = S.data.toList.drop a') := hX.1
      have HBL := Lib.hid (fun w => Blank_any c w)
      have hXs : X.size ≤ 20000 := by omega
      have hXa : a' + X.size = S.size := by omega
      clear hat hxd hXX hx1 hX
      go_wp2_with (go_at_call 21; refine HR3.out.mono ?_; rintro e w6 ⟨rfl, h6⟩; have HS6 := Lib.hid (HS5.out.under h6); clear h6; have q1 : w6.cell? ⟨rb, 1, none⟩ = some (.int .i64 a') := cell_of HS6.out.rd 1; have f1 := free_of HS6.out.rd 1; simp only [])
      cases hbl : isBlank c with
      | true =>
        rw [hbl] at HBL
        have hw1 : IntKind.i64.wrap ((a' : Int) + 1) = (a' : Int) + 1 := IntWalk.i64_in _ (by omega)
        go_wp2_with (go_at_call 30; refine (HBL.out _).mono ?_; rintro e w7 ⟨rfl, h7⟩; obtain rfl := h7.symm; simp only [])
        have HST := Lib.hid (HS6.out.step 1 (by omega) (ai := (a' : Int) + 1) (by omega) (by rw [HDR.out]; exact sk_bl hbl))
        go_roundw
        case measure => rw [mea_at HST.out.rd, mea_at HS.out.rd]; omega
        case rel => exact ⟨_, HST.out⟩
      | false =>
        rw [hbl] at HBL
        have HPR := Lib.hid (fun w => Try.strings_HasPrefix X ⟨#[92, 10]⟩ w)
        rw [show Lib.hasPrefix X.data.toList (⟨#[92, 10]⟩ : ByteArray).data.toList = decide (c = 92 ∧ (S.data.toList.drop (a' + 1)).head? = some 10) from by rw [pre2 92 10 X, HXD.out, HDR.out]; simp] at HPR
        have h35 := byte_eq c 35
        rw [show ((35 : UInt8).toNat : Int) = 35 from rfl] at h35
        by_cases hnl : c = 92 ∧ (S.data.toList.drop (a' + 1)).head? = some 10
        · rw [decide_eq_true hnl] at HPR
          have hw1 : IntKind.i64.wrap ((a' : Int) + 2) = (a' : Int) + 2 := IntWalk.i64_in _ (by omega)
          have hl2 : a' + 2 ≤ S.size := by
            by_cases h : a' + 2 ≤ S.size
            · exact h
            · have h2 := hnl.2
              rw [List.drop_of_length_le (by rw [dl]; omega)] at h2; cases h2
          have heq : skipF false (S.data.toList.drop a') = skipF false (S.data.toList.drop (a' + 2)) := by
            rw [HDR.out, hnl.1, show S.data.toList.drop (a' + 2) = (S.data.toList.drop (a' + 1)).drop 1 by rw [List.drop_drop]]
            obtain ⟨_, h2⟩ := hnl
            cases hh : S.data.toList.drop (a' + 1) with
            | nil => rw [hh] at h2; cases h2
            | cons y r =>
              rw [hh] at h2
              simp at h2
              subst h2
              exact sk_nl
          go_wp2_with (first
            | (go_at_call 30; refine (HBL.out _).mono ?_; rintro e w7 ⟨rfl, h7⟩; obtain rfl := h7.symm; simp only [])
            | (go_at_call 31; refine (HPR.out _).mono ?_; rintro e w7 ⟨rfl, h7⟩; obtain rfl := h7.symm; simp only []))
          have HST := Lib.hid (HS6.out.step 2 (by omega) (ai := (a' : Int) + 2) (by omega) heq)
          go_roundw
          case measure => rw [mea_at HST.out.rd, mea_at HS.out.rd]; omega
          case rel => exact ⟨_, HST.out⟩
        · rw [decide_eq_false hnl] at HPR
          by_cases e35 : c = 35
          · have hz35 : ((c.toNat : Int) == 35) = true := by rw [h35, e35]; rfl
            clear h35
            have hsl := sk_line (X := X) (r := S.data.toList.drop (a' + 1)) (by rw [HXD.out, HDR.out, e35])
            have HCU := Lib.hid (Cut_one 10 X w6 (by omega))
            unfold CutP at HCU
            obtain ⟨L, hL⟩ : ∃ L, (cutA 10 X).1 = L := ⟨_, rfl⟩
            obtain ⟨R2, hR2⟩ : ∃ L, (cutA 10 X).2.1 = L := ⟨_, rfl⟩
            obtain ⟨b2, hb2⟩ : ∃ L, (cutA 10 X).2.2 = L := ⟨_, rfl⟩
            rw [hL, hR2, hb2] at HCU
            rw [hL] at hsl
            have hLs := hsl.2.1
            have hL1 := hsl.2.2
            have heq : skipF false (S.data.toList.drop a') = skipF false (S.data.toList.drop (a' + L.size)) := by rw [← List.drop_drop, ← HXD.out]; exact hsl.1
            have hw1 : IntKind.i64.wrap ((a' : Int) + (L.size : Int)) = (a' : Int) + (L.size : Int) := IntWalk.i64_in _ (by omega)
            clear hL hR2 hb2 hsl
            go_wp2_with (first
              | (go_at_call 30; refine (HBL.out _).mono ?_; rintro e w7 ⟨rfl, h7⟩; obtain rfl := h7.symm; simp only [])
              | (go_at_call 31; refine (HPR.out _).mono ?_; rintro e w7 ⟨rfl, h7⟩; obtain rfl := h7.symm; simp only [])
              | (go_at_call 32; refine HCU.out.mono ?_; rintro e w7 ⟨rfl, n7, h7⟩; have HS7 : Hid (Sk w w7 rb S a a') := by rw [h7]; exact HS6.out.under (drew_below _ _)
                 clear h7; have q1 : w7.cell? ⟨rb, 1, none⟩ = some (.int .i64 a') := cell_of HS7.out.rd 1; have f1 := free_of HS7.out.rd 1; simp only []))
            have HST := Lib.hid (HS7.out.step L.size (by omega) (ai := (a' : Int) + (L.size : Int)) (by omega) heq)
            go_roundw
            case measure => rw [mea_at HST.out.rd, mea_at HS.out.rd]; omega
            case rel => exact ⟨_, HST.out⟩
          · have hz35 : ((c.toNat : Int) == 35) = false := by rw [h35]; simpa using e35
            clear h35
            go_wp2_with (first
              | (go_at_call 30; refine (HBL.out _).mono ?_; rintro e w7 ⟨rfl, h7⟩; obtain rfl := h7.symm; simp only [])
              | (go_at_call 31; refine (HPR.out _).mono ?_; rintro e w7 ⟨rfl, h7⟩; obtain rfl := h7.symm; simp only []))
            refine bodyPost_ret (v := .tuple #[]) (by simp [results, Try.results20, go_sem]) rfl ?_
            rw [← HQ.out]
            refine ⟨rfl, a', HS6.out, ?_⟩
            rw [HS6.out.eq, HDR.out, sk_no hbl hnl e35]
    · have hltI : ¬ (a' : Int) < (S.size : Int) := by omega
      have hltd : decide ((a' : Int) < (S.size : Int)) = false := decide_eq_false hltI
      go_wp2_with fail
      go_quiet (fail)
      go_wp2_with fail
      refine bodyPost_end (v := .tuple #[]) (by simp [results, Try.results20, go_sem]) rfl ?_
      rw [← HQ.out]
      refine ⟨rfl, a', HS.out.under (drew_below _ _), ?_⟩
      rw [HS.out.eq, List.drop_of_length_le (by rw [dl]; omega)]; rfl
end Go.Proofs.Ytafbheplaheohaa
