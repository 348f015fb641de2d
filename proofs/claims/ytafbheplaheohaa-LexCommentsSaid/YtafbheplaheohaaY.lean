import Derived.Test.YtafbheplaheohaaX
import Derived.Test.YtafbheplaheohaaB
import Derived.Test.YtafbheplaheohaaMG
namespace Go.Proofs.Ytafbheplaheohaa
open Go.RowKit
set_option linter.unusedVariables false

/-- Reading, of any length. -/
theorem RP_all (n : Nat) : RP n := by
  induction n using Nat.strongRecOn with
  | _ n ih =>
    intro w B rb pb a lv p S e q d hn he hd hp hz hB hr hrb ha hs
    exact read_step e q d he hd hp hz hB hr hrb ha hs (fun m hm => ih m (by omega))
/-- A word, up to an end. -/
theorem word_any {w : World} {rb a : Nat} {S : ByteArray} (q : Bool) (d e : Nat) (he : e ≤ 3) (hd : d ≤ 50000) (hr : Rd w rb S a) (ha : a ≤ S.size) (hs : S.size ≤ 20000) :
    Calls Try.prog 23 #[.pointer (some ⟨rb, 0, none⟩), .int .i64 e, .bool q, .int .i64 d] w (WordP w rb S (allR (readC e q d ps0 (S.data.toList.drop a)))) :=
  word_of (RP_all _) q d e he (by omega) hr ha hs
end Go.Proofs.Ytafbheplaheohaa

namespace Go.Proofs.Ytafbheplaheohaa
open Go.RowKit
set_option linter.unusedVariables false

/-- What lex.Word answers. -/
def WordsP (w : World) (r : Res (List Prt)) (e : Ending) (w' : World) : Prop := match r with
  | .error x => e = .returned (.tuple #[.slice none 0 0, .int .i64 x]) ∧ x ≠ 0 ∧ Below w.heap.size w w'
  | .ok l => ∃ v, e = .returned (.tuple #[v, .int .i64 0]) ∧ Wd w' (fun k => w.heap.size ≤ k) v l ∧ Below w.heap.size w w'
theorem wordsF_bad {s : Bz} (h : mayN s ≠ 0) : wordsF s = .error (mayN s) := by unfold wordsF; rw [if_pos h]
theorem wordsF_all {s : Bz} (h : mayN s = 0) : wordsF s = match allR (readC 0 false 0 ps0 s) with
    | .error x => .error x
    | .ok (w, _) => .ok w := by rw [wordsF_eq h, wordF_eq]; rfl
set_option maxRecDepth 100000 in
set_option maxHeartbeats 8000000 in
theorem Word_any (s : ByteArray) (w : World) (hs : s.size ≤ 9000000000000000000) : Calls Try.prog 17 #[.string s] w (WordsP w (wordsF s.data.toList)) := by
  obtain ⟨Q, hQ⟩ : ∃ Q, WordsP w (wordsF s.data.toList) = Q := ⟨_, rfl⟩
  rw [hQ]
  have HQ := Lib.hid hQ
  have HRE := Lib.hid (readable_any s w hs)
  clear hQ
  by_cases hm : mayN s.data.toList = 0
  · rw [hm] at HRE
    have HF : Hid (wordsF s.data.toList = match allR (readC 0 false 0 ps0 s.data.toList) with
      | .error x => .error x
      | .ok (w, _) => .ok w) := wordsF_all hm
    have hs2 : s.size ≤ 16384 := by
      by_cases h : s.size ≤ 16384
      · exact h
      · unfold mayN at hm; rw [dl, if_pos (by omega)] at hm; cases hm
    have hbe : Below w.heap.size w (w.alloc (.cells #[.string s, .int .i64 0] 53)) := (Below.refl _ _).alloc (Nat.le_refl _) _
    have hrd : Rd (w.alloc (.cells #[.string s, .int .i64 0] 53)) w.heap.size s 0 := heap_alloc_new w _
    have HW : Hid (Calls Try.prog 23 #[.pointer (some ⟨w.heap.size, 0, none⟩), .int .i64 0, .bool false, .int .i64 0] (w.alloc (.cells #[.string s, .int .i64 0] 53)) (WordP (w.alloc (.cells #[.string s, .int .i64 0] 53)) w.heap.size s (allR (readC 0 false 0 ps0 s.data.toList)))) := word_any false 0 0 (by decide) (by decide) hrd (Nat.zero_le _) (by omega)
    have HB : Hid (∀ w', Only (fun k => k = w.heap.size) (w.alloc (.cells #[.string s, .int .i64 0] 53)) w' → Below w.heap.size w w') := fun w' h => hbe.trans (h.below (fun k e => by omega) hbe.size)
    have hsz : (w.alloc (.cells #[.string s, .int .i64 0] 53)).heap.size = w.heap.size + 1 := by simp
    clear hbe hrd hm
    generalize allR (readC 0 false 0 ps0 s.data.toList) = r at HW HF
    unfold WordP at HW
    rcases r with x | ⟨l, t⟩
    · simp only at HW HF
      go_enter Try.func17, Try.ntmps17
      go_wp2_with (first
        | (go_at_call 19; refine HRE.out.mono ?_; rintro e w1 ⟨rfl, h1⟩; obtain rfl := h1.symm; simp only [])
        | (go_at_call 23; refine HW.out.mono ?_; rintro e w5 ⟨rfl, hx0, ho, _⟩; have HX0 := Lib.hid hx0; have HO := Lib.hid (HB.out _ ho); clear hx0 ho; simp only []))
      rw [← HQ.out, HF.out]
      exact ⟨rfl, HX0.out, HO.out⟩
    · simp only at HW HF
      have HW2 : Hid (Calls Try.prog 23 #[.pointer (some ⟨w.heap.size, 0, none⟩), .int .i64 0, .bool false, .int .i64 0] (w.alloc (.cells #[.string s, .int .i64 0] 53)) fun e w' => ∃ va vn vc, e = .returned (.tuple #[.slice va vn vc, .int .i64 0]) ∧ Wd w' (fun k => w.heap.size ≤ k) (.slice va vn vc) l ∧ Below w.heap.size w w') := HW.out.mono (by
        rintro e w' ⟨ho, v, a', rfl, hwd, _⟩
        obtain ⟨va, vc, rfl⟩ := hwd.form
        exact ⟨va, _, vc, rfl, hwd.mono fun k h => by omega, HB.out _ ho⟩)
      go_enter Try.func17, Try.ntmps17
      go_wp2_with (first
        | (go_at_call 19; refine HRE.out.mono ?_; rintro e w1 ⟨rfl, h1⟩; obtain rfl := h1.symm; simp only [])
        | (go_at_call 23; refine HW2.out.mono ?_; rintro e w5 ⟨va, vn, vc, rfl, h1, h2⟩; have H1 := Lib.hid h1; have H2 := Lib.hid h2; clear h1 h2; simp only []))
      rw [← HQ.out, HF.out]
      exact ⟨_, rfl, H1.out, H2.out⟩
  · have HF : Hid (wordsF s.data.toList = .error (mayN s.data.toList)) := wordsF_bad hm
    obtain ⟨x, hx⟩ : ∃ x, mayN s.data.toList = x := ⟨_, rfl⟩
    rw [hx] at HRE HF hm
    have hxI : ((x : Int) == 0) = false := beq_eq_false_iff_ne.2 (by omega)
    have HM := Lib.hid hm
    clear hx hm
    go_enter Try.func17, Try.ntmps17
    go_wp2_with (go_at_call 19; refine HRE.out.mono ?_; rintro e w1 ⟨rfl, h1⟩; obtain rfl := h1.symm; simp only [])
    rw [← HQ.out, HF.out]
    exact ⟨rfl, HM.out, Below.refl _ _⟩
end Go.Proofs.Ytafbheplaheohaa

namespace Go.Proofs.Ytafbheplaheohaa
open Go.RowKit
set_option linter.unusedVariables false

theorem sk_cons (c : UInt8) (r : Bz) : skipF false (c :: r) = if isBlank c then skipF false r else if c = 92 then (match r with | [] => c :: r | c' :: r' => if c' = 10 then skipF false r' else c :: r) else if c = 35 then skipF true r else c :: r := by cases r <;> rfl
theorem sk_cut : ∀ (l : Bz), skipF true l = (match cutAt 10 l with | none => [] | some (t, _) => l.drop t.length)
  | [] => rfl
  | c :: r => by
    by_cases h : c = 10
    · subst h; rfl
    · have := sk_cut r
      show (if c = 10 then c :: r else skipF true r) = _
      rw [if_neg h, this]
      show _ = match cutAt 10 (c :: r) with | none => [] | some (t, _) => (c :: r).drop t.length
      rw [show cutAt 10 (c :: r) = if c = 10 then some ([], r) else (cutAt 10 r).map fun x => (c :: x.1, x.2) from by rw [cutAt], if_neg h]
      cases cutAt 10 r with
      | none => rfl
      | some z => rfl
theorem sk_stop : ∀ (l : Bz), skipF false (skipF true l) = skipF true l
  | [] => rfl
  | c :: r => by
    show skipF false (if c = 10 then c :: r else skipF true r) = if c = 10 then c :: r else skipF true r
    by_cases h : c = 10
    · subst h; rw [if_pos rfl]; cases r <;> rfl
    · rw [if_neg h]; exact sk_stop r
theorem sk_bl {c : UInt8} {r : Bz} (h : isBlank c = true) : skipF false (c :: r) = skipF false r := by rw [sk_cons, if_pos h]
theorem sk_nl {r : Bz} : skipF false (92 :: 10 :: r) = skipF false r := by rw [sk_cons, if_neg (by decide), if_pos rfl]; rfl
theorem sk_co {r : Bz} : skipF false (35 :: r) = skipF true (35 :: r) := by rw [sk_cons, if_neg (by decide), if_neg (by decide), if_pos rfl]; rfl
theorem sk_no {c : UInt8} {r : Bz} (h : isBlank c = false) (h1 : ¬ (c = 92 ∧ r.head? = some 10)) (h2 : c ≠ 35) : skipF false (c :: r) = c :: r := by
  rw [sk_cons, if_neg (by simp [h])]
  by_cases h3 : c = 92
  · subst h3
    rw [if_pos rfl]
    cases r with
    | nil => rfl
    | cons d r =>
      have : d ≠ 10 := fun e => h1 ⟨rfl, by rw [e]; rfl⟩
      simp only [if_neg this]
  · rw [if_neg h3, if_neg h2]
theorem sk_line {X : ByteArray} {r : Bz} (h : X.data.toList = 35 :: r) : skipF false X.data.toList = skipF false (X.data.toList.drop (cutA 10 X).1.size) ∧ (cutA 10 X).1.size ≤ X.size ∧ 0 < (cutA 10 X).1.size := by
  have h0 : 0 < (cutA 10 X).1.size := by
    unfold cutA
    cases hc : cutAt 10 X.data.toList with
    | none => show 0 < X.size; rw [← dl, h]; simp
    | some z =>
      obtain ⟨t, r'⟩ := z
      have h2 := (cutAt_eq hc).1
      show 0 < (⟨t.toArray⟩ : ByteArray).size
      rw [sz_mk]
      cases t with
      | nil => rw [h] at h2; simp at h2
      | cons a b => simp
  have h1 : skipF true X.data.toList = X.data.toList.drop (cutA 10 X).1.size ∧ (cutA 10 X).1.size ≤ X.size := by
    rw [sk_cut]; unfold cutA
    cases hc : cutAt 10 X.data.toList with
    | none => exact ⟨(List.drop_of_length_le (by rw [dl]; exact Nat.le_refl _)).symm, Nat.le_refl _⟩
    | some z =>
      obtain ⟨t, r'⟩ := z
      have h2 := congrArg List.length (cutAt_eq hc).1
      rw [dl] at h2
      simp at h2
      exact ⟨by simp only [sz_mk], by simp only [sz_mk]; omega⟩
  refine ⟨?_, h1.2, h0⟩
  rw [← h1.1, sk_stop, h, sk_co]
/-- Where the skipping has come to. -/
structure Sk (w wx : World) (rb : Nat) (S : ByteArray) (a a' : Nat) : Prop where
  rd : Rd wx rb S a'
  le : a' ≤ S.size
  ge : a ≤ a'
  only : Only (fun k => k = rb) w wx
  eq : skipF false (S.data.toList.drop a) = skipF false (S.data.toList.drop a')
theorem Sk.under {w wx w' : World} {rb a a' : Nat} {S : ByteArray} (h : Sk w wx rb S a a') (hb : Below wx.heap.size wx w') : Sk w w' rb S a a' :=
  ⟨h.rd.under hb, h.le, h.ge, h.only.trans (Only.of_below (S := fun _ => False) hb) (fun _ h => h) (fun _ _ h => h.elim), h.eq⟩
theorem Sk.step {w wx : World} {rb a a' : Nat} {S : ByteArray} (h : Sk w wx rb S a a') (n : Nat) (hn : a' + n ≤ S.size) {ai : Int} (e : ai = ((a' + n : Nat) : Int)) (heq : skipF false (S.data.toList.drop a') = skipF false (S.data.toList.drop (a' + n))) : Sk w (wx.setCell ⟨rb, 1, none⟩ (.int .i64 ai)) rb S a (a' + n) :=
  ⟨h.rd.setI _ e, hn, by have := h.ge; omega, h.only.set (.inl rfl) _ _, h.eq.trans heq⟩
def SkP (w : World) (rb : Nat) (S : ByteArray) (a : Nat) (e : Ending) (w' : World) : Prop := e = .returned (.tuple #[]) ∧ ∃ a', Sk w w' rb S a a' ∧ S.data.toList.drop a' = skipF false (S.data.toList.drop a)
set_option maxRecDepth 100000 in
set_option maxHeartbeats 8000000 in
theorem skip_any {w : World} {rb a : Nat} {S : ByteArray} (hr : Rd w rb S a) (ha : a ≤ S.size) (hs : S.size ≤ 20000) : Calls Try.prog 20 #[.pointer (some ⟨rb, 0, none⟩)] w (SkP w rb S a) := by
  obtain ⟨Q, hQ⟩ : ∃ Q, SkP w rb S a = Q := ⟨_, rfl⟩
  rw [hQ]
  have HQ := Lib.hid hQ
  have H0 : Hid (Sk w w rb S a a) := ⟨hr, ha, Nat.le_refl _, Only.refl _ _, rfl⟩
  have HRESTA := Lib.hid (fun (a1 : Nat) (w1 : World) (h : Rd w1 rb S a1) (h1 : a1 ≤ S.size) => rest_any rb S a1 w1 h h1 hs)
  clear hQ hr
  go_enter Try.func20, Try.ntmps20
  go_wp2_with fail
  go_loopw [] (fun wx => ∃ a', Hid (Sk w wx rb S a a')) (fun wx => mea rb (.int .i64 0) wx)
  case atStart => exact ⟨a, H0.out⟩
  case round =>
    obtain ⟨a', HS⟩ := hrel
    have q0 : wr.cell? ⟨rb, 0, none⟩ = some (.string S) := cell_of HS.out.rd 0
    have q1 : wr.cell? ⟨rb, 1, none⟩ = some (.int .i64 a') := cell_of HS.out.rd 1
    have hle := HS.out.le
    by_cases hlt : a' < S.size
    · have hltI : (a' : Int) < (S.size : Int) := by omega
      have hltd : decide ((a' : Int) < (S.size : Int)) = true := decide_eq_true hltI
      go_wp2_with fail
      go_quiet (fail)
      have hbn := drew_below wr nq
      obtain ⟨w5, hw5⟩ : ∃ wv, World.drewN wr nq = wv := ⟨_, rfl⟩
      rw [hw5] at hbn ⊢
      have HS5 := Lib.hid (HS.out.under hbn)
      clear hw5 hbn q0 q1
      have hX := ext_end (t := S) (a := a') hle
      have HR3 : Hid (Calls Try.prog 21 #[.pointer (some ⟨rb, 0, none⟩)] w5 fun e w' => e = .returned (.string (S.extract a' S.size)) ∧ Below w5.heap.size w5 w') := HRESTA.out a' w5 HS5.out.rd hle
      obtain ⟨X, hXX⟩ : ∃ X, S.extract a' S.size = X := ⟨_, rfl⟩
      rw [hXX] at HR3 hX
      have hX0 : 0 < X.size := by omega
      have hX0I : (0 : Int) < (X.size : Int) := by omega
      have hat := data_get X 0 hX0
      obtain ⟨c, hc⟩ : ∃ c, X[0]'hX0 = c := ⟨_, rfl⟩
      rw [hc] at hat
      have hxd : X.data.toList = c :: X.data.toList.drop 1 := at_drop hat
      have hx1 : X.data.toList.drop 1 = S.data.toList.drop (a' + 1) := by rw [hX.1, List.drop_drop]
      have HDR : Hid (S.data.toList.drop a' = c :: S.data.toList.drop (a' + 1)) := by rw [Hid, ← hX.1, ← hx1]; exact hxd
      have HXD : Hid (X.data.toList = S.data.toList.drop a') := hX.1
      have HBL := Lib.hid (fun w => Blank_any c w)
      have hXs : X.size ≤ 20000 := by omega
      have hXa : a' + X.size = S.size := by omega
      clear hat hxd hXX hx1 hX
      go_wp2_with (go_at_call 21; refine HR3.out.mono ?_; rintro e w6 ⟨rfl, h6⟩; have HS6 := Lib.hid (HS5.out.under h6); clear h6; have q1 : w6.cell? ⟨rb, 1, none⟩ = some (.int .i64 a') := cell_of HS6.out.rd 1; have f1 := free_of HS6.out.rd 1; simp only [])
      cases hbl : isBlank c with
      | true =>
        rw [hbl] at HBL
        have hw1 : IntKind.i64.wrap ((a' : Int) + 1) = (a' : Int) + 1 := IntWalk.i64_in _ (by omega)
        go_wp2_with (go_at_call 30; refine (HBL.out _).mono ?_; rintro e w7 ⟨rfl, h7⟩; obtain rfl := h7.symm; simp only [])
        have HST := Lib.hid (HS6.out.step 1 (by omega) (ai := (a' : Int) + 1) (by omega) (by rw [HDR.out]; exact sk_bl hbl))
        go_roundw
        case measure => rw [mea_at HST.out.rd, mea_at HS.out.rd]; omega
        case rel => exact ⟨_, HST.out⟩
      | false =>
        rw [hbl] at HBL
        have HPR := Lib.hid (fun w => Try.strings_HasPrefix X ⟨#[92, 10]⟩ w)
        rw [show Lib.hasPrefix X.data.toList (⟨#[92, 10]⟩ : ByteArray).data.toList = decide (c = 92 ∧ (S.data.toList.drop (a' + 1)).head? = some 10) from by rw [pre2 92 10 X, HXD.out, HDR.out]; simp] at HPR
        have h35 := byte_eq c 35
        rw [show ((35 : UInt8).toNat : Int) = 35 from rfl] at h35
        by_cases hnl : c = 92 ∧ (S.data.toList.drop (a' + 1)).head? = some 10
        · rw [decide_eq_true hnl] at HPR
          have hw1 : IntKind.i64.wrap ((a' : Int) + 2) = (a' : Int) + 2 := IntWalk.i64_in _ (by omega)
          have hl2 : a' + 2 ≤ S.size := by
            by_cases h : a' + 2 ≤ S.size
            · exact h
            · have h2 := hnl.2
              rw [List.drop_of_length_le (by rw [dl]; omega)] at h2; cases h2
          have heq : skipF false (S.data.toList.drop a') = skipF false (S.data.toList.drop (a' + 2)) := by
            rw [HDR.out, hnl.1, show S.data.toList.drop (a' + 2) = (S.data.toList.drop (a' + 1)).drop 1 by rw [List.drop_drop]]
            obtain ⟨_, h2⟩ := hnl
            cases hh : S.data.toList.drop (a' + 1) with
            | nil => rw [hh] at h2; cases h2
            | cons y r =>
              rw [hh] at h2
              simp at h2
              subst h2
              exact sk_nl
          go_wp2_with (first
            | (go_at_call 30; refine (HBL.out _).mono ?_; rintro e w7 ⟨rfl, h7⟩; obtain rfl := h7.symm; simp only [])
            | (go_at_call 31; refine (HPR.out _).mono ?_; rintro e w7 ⟨rfl, h7⟩; obtain rfl := h7.symm; simp only []))
          have HST := Lib.hid (HS6.out.step 2 (by omega) (ai := (a' : Int) + 2) (by omega) heq)
          go_roundw
          case measure => rw [mea_at HST.out.rd, mea_at HS.out.rd]; omega
          case rel => exact ⟨_, HST.out⟩
        · rw [decide_eq_false hnl] at HPR
          by_cases e35 : c = 35
          · have hz35 : ((c.toNat : Int) == 35) = true := by rw [h35, e35]; rfl
            clear h35
            have hsl := sk_line (X := X) (r := S.data.toList.drop (a' + 1)) (by rw [HXD.out, HDR.out, e35])
            have HCU := Lib.hid (Cut_one 10 X w6 (by omega))
            unfold CutP at HCU
            obtain ⟨L, hL⟩ : ∃ L, (cutA 10 X).1 = L := ⟨_, rfl⟩
            obtain ⟨R2, hR2⟩ : ∃ L, (cutA 10 X).2.1 = L := ⟨_, rfl⟩
            obtain ⟨b2, hb2⟩ : ∃ L, (cutA 10 X).2.2 = L := ⟨_, rfl⟩
            rw [hL, hR2, hb2] at HCU
            rw [hL] at hsl
            have hLs := hsl.2.1
            have hL1 := hsl.2.2
            have heq : skipF false (S.data.toList.drop a') = skipF false (S.data.toList.drop (a' + L.size)) := by rw [← List.drop_drop, ← HXD.out]; exact hsl.1
            have hw1 : IntKind.i64.wrap ((a' : Int) + (L.size : Int)) = (a' : Int) + (L.size : Int) := IntWalk.i64_in _ (by omega)
            clear hL hR2 hb2 hsl
            go_wp2_with (first
              | (go_at_call 30; refine (HBL.out _).mono ?_; rintro e w7 ⟨rfl, h7⟩; obtain rfl := h7.symm; simp only [])
              | (go_at_call 31; refine (HPR.out _).mono ?_; rintro e w7 ⟨rfl, h7⟩; obtain rfl := h7.symm; simp only [])
              | (go_at_call 32; refine HCU.out.mono ?_; rintro e w7 ⟨rfl, n7, h7⟩; have HS7 : Hid (Sk w w7 rb S a a') := by rw [h7]; exact HS6.out.under (drew_below _ _)
                 clear h7; have q1 : w7.cell? ⟨rb, 1, none⟩ = some (.int .i64 a') := cell_of HS7.out.rd 1; have f1 := free_of HS7.out.rd 1; simp only []))
            have HST := Lib.hid (HS7.out.step L.size (by omega) (ai := (a' : Int) + (L.size : Int)) (by omega) heq)
            go_roundw
            case measure => rw [mea_at HST.out.rd, mea_at HS.out.rd]; omega
            case rel => exact ⟨_, HST.out⟩
          · have hz35 : ((c.toNat : Int) == 35) = false := by rw [h35]; simpa using e35
            clear h35
            go_wp2_with (first
              | (go_at_call 30; refine (HBL.out _).mono ?_; rintro e w7 ⟨rfl, h7⟩; obtain rfl := h7.symm; simp only [])
              | (go_at_call 31; refine (HPR.out _).mono ?_; rintro e w7 ⟨rfl, h7⟩; obtain rfl := h7.symm; simp only []))
            refine bodyPost_ret (v := .tuple #[]) (by simp [results, Try.results20, go_sem]) rfl ?_
            rw [← HQ.out]
            refine ⟨rfl, a', HS6.out, ?_⟩
            rw [HS6.out.eq, HDR.out, sk_no hbl hnl e35]
    · have hltI : ¬ (a' : Int) < (S.size : Int) := by omega
      have hltd : decide ((a' : Int) < (S.size : Int)) = false := decide_eq_false hltI
      go_wp2_with fail
      go_quiet (fail)
      go_wp2_with fail
      refine bodyPost_end (v := .tuple #[]) (by simp [results, Try.results20, go_sem]) rfl ?_
      rw [← HQ.out]
      refine ⟨rfl, a', HS.out.under (drew_below _ _), ?_⟩
      rw [HS.out.eq, List.drop_of_length_le (by rw [dl]; omega)]; rfl
end Go.Proofs.Ytafbheplaheohaa

namespace Go.Proofs.Ytafbheplaheohaa
open Go.RowKit
set_option linter.unusedVariables false

theorem Wd.at {w : World} {F : Nat → Prop} {v : Value} {l : List Prt} (h : Wd w F v l) {i : Nat} (hi : i < l.length) :
    ∃ g off c cur pt, v = .slice (some ⟨g, off, none⟩) l.length c ∧ w.heap[g]? = some (.cells cur 39 (0, 0)) ∧ (∀ q, q < 6 → cur[off + i * 6 + q]? = (Pt.cs pt)[q]?) ∧ pt.is l[i] ∧ Wd w F pt.wv l[i].word := by
  cases h with
  | nil c => exact absurd hi (by simp)
  | row g off c cur L l hF hb hl hc hs hw =>
    have hi' : i < L.length := by rw [hl]; exact hi
    exact ⟨g, off, c, cur, L[i], rfl, hb, fun q hq => hc i hi' q hq, hs i hi' hi, hw i hi' hi⟩
theorem addo6 (b off k : Nat) : (⟨b, off, none⟩ : Addr).add (k * 6) = ⟨b, off + k * 6, none⟩ := addn b off _
/-- The six cells of a part. -/
theorem Wd.cells {w : World} {F : Nat → Prop} {a : Option Addr} {n c : Nat} {l : List Prt} (h : Wd w F (.slice a n c) l) {i : Nat} (hi : i < l.length) :
    ∃ b off k t nm o wa wc q, a = some ⟨b, off, none⟩ ∧ b < w.heap.size ∧ w.cell? ⟨b, off + i * 6, none⟩ = some (.int .i64 k) ∧ w.cell? ⟨b, off + i * 6 + 1, none⟩ = some (.string t) ∧ w.cell? ⟨b, off + i * 6 + 2, none⟩ = some (.string nm) ∧
      w.cell? ⟨b, off + i * 6 + 3, none⟩ = some (.string o) ∧ w.cell? ⟨b, off + i * 6 + 4, none⟩ = some (.slice wa l[i].word.length wc) ∧ w.cell? ⟨b, off + i * 6 + 5, none⟩ = some (.bool q) ∧
      k = (l[i].kind : Int) ∧ t.data.toList = l[i].text ∧ nm.data.toList = l[i].name ∧ o.data.toList = l[i].op ∧ q = l[i].quoted ∧ Wd w F (.slice wa l[i].word.length wc) l[i].word := by
  obtain ⟨g, off, c', cur, ⟨k, t, nm, o, wv, q⟩, e, hb, hc, ⟨i1, i2, i3, i4, i5⟩, hw⟩ := h.at hi
  obtain ⟨wa, wc, hf⟩ := hw.form
  simp only at i1 i2 i3 i4 i5 hw hf
  subst hf
  injection e with e1 e2 e3
  have hlt := (Array.getElem?_eq_some_iff.1 hb).1
  have hcell : ∀ j u, j < 6 → (Pt.cs ⟨k, t, nm, o, .slice wa l[i].word.length wc, q⟩)[j]? = some u → w.cell? ⟨g, off + i * 6 + j, none⟩ = some u := fun j u hj hu => by
    rw [Lib.cell_of_heap hb]
    exact (hc j hj).trans hu
  exact ⟨g, off, k, t, nm, o, wa, wc, q, e1, hlt, hcell 0 _ (by decide) rfl, hcell 1 _ (by decide) rfl, hcell 2 _ (by decide) rfl, hcell 3 _ (by decide) rfl, hcell 4 _ (by decide) rfl, hcell 5 _ (by decide) rfl, i1, i2, i3, i4, i5, hw⟩
theorem sames_len : ∀ {l m : List Prt}, l.length ≠ m.length → sames l m = false
  | [], [], h => absurd rfl h
  | [], _ :: _, _ => by rw [sames]
  | _ :: _, [], _ => by rw [sames]
  | a :: l, b :: m, h => by rw [sames, sames_len (l := l) (m := m) (by simpa using h), Bool.and_false]
theorem sames_drop {l m : List Prt} {k : Nat} (hl : k < l.length) (hm : k < m.length) : sames (l.drop k) (m.drop k) = (same l[k] m[k] && sames (l.drop (k + 1)) (m.drop (k + 1))) := by
  rw [List.drop_eq_getElem_cons hl, List.drop_eq_getElem_cons hm, sames]
theorem same_at (a b : Prt) : same a b = (a.kind == b.kind && a.text == b.text && a.name == b.name && a.op == b.op && a.quoted == b.quoted && sames a.word b.word) := by
  cases a; cases b; rw [same]; rfl
theorem int_beq (a b : Nat) : ((a : Int) == (b : Int)) = (a == b) := by
  rw [Bool.eq_iff_iff]; simp only [beq_iff_eq]; omega
theorem size_alloc (w : World) (o : Obj) : (w.alloc o).heap.size = w.heap.size + 1 := by simp
/-- The answer so far. -/
def SPq (w : World) (b : Bool) (e : Ending) (w' : World) : Prop := e = .returned (.bool b) ∧ Below w.heap.size w w'
set_option maxRecDepth 100000 in
set_option maxHeartbeats 8000000 in
theorem SameParts_step (n : Nat) (ih : ∀ l m : List Prt, ∀ a1 c1 a2 c2 (w : World) (F G : Nat → Prop), wsz m < n → Wd w F (.slice a1 l.length c1) l → Wd w G (.slice a2 m.length c2) m → Calls Try.prog 18 #[.slice a1 l.length c1, .slice a2 m.length c2] w (SPq w (sames l m)))
    (hn100 : n ≤ 100000) (l m : List Prt) (a1 : Option Addr) (c1 : Nat) (a2 : Option Addr) (c2 : Nat) (w : World) (F G : Nat → Prop) (hn : wsz m = n) (h1 : Wd w F (.slice a1 l.length c1) l) (h2 : Wd w G (.slice a2 m.length c2) m) :
    Calls Try.prog 18 #[.slice a1 l.length c1, .slice a2 m.length c2] w (SPq w (sames l m)) := by
  have hml := wsz_len m
  obtain ⟨Q, hQ⟩ : ∃ Q, SPq w (sames l m) = Q := ⟨_, rfl⟩
  rw [hQ]
  have HQ := Lib.hid hQ
  clear hQ
  have H1 := Lib.hid h1
  have H2 := Lib.hid h2
  clear h1 h2
  by_cases hlen : l.length = m.length
  · rw [← hlen] at H2 ⊢
    have HL := Lib.hid hlen
    obtain ⟨N, hN⟩ : ∃ N, l.length = N := ⟨_, rfl⟩
    have hNI : (N : Int) ≤ 100000 := by omega
    have HN := Lib.hid hN
    rw [hN] at H1 H2 ⊢
    clear hN hlen
    go_enter Try.func18, Try.ntmps18
    go_wp2_with fail
    go_loopw [5] (fun i wx => ∃ k : Nat, k ≤ N ∧ i = .int .i64 k ∧ Hid (Below w.heap.size w wx ∧ sames l m = sames (l.drop k) (m.drop k))) (fun i _ => N - (intOf i).toNat)
    case atStart => exact ⟨0, by omega, rfl, Below.refl _ _, rfl⟩
    case round =>
      obtain ⟨k, hk, rfl, HD⟩ := hrel
      by_cases hlt : k < N
      · have hltI : (k : Int) < (N : Int) := by omega
        have hltd : decide ((k : Int) < (N : Int)) = true := decide_eq_true hltI
        have hk0 : (0 : Int) ≤ (k : Int) := by omega
        have hkl : k < l.length := by rw [HN.out]; exact hlt
        have hkm : k < m.length := by rw [← HL.out, HN.out]; exact hlt
        obtain ⟨b, off, kk, t, nm, o, wa, wc, q, e1, hb, q0, q1, q2, q3, q4, q5, i1, i2, i3, i4, i5, hw1⟩ := (H1.out.under HD.out.1).cells hkl
        obtain ⟨b', off', kk', t', nm', o', wa', wc', q', e1', hb', q0', q1', q2', q3', q4', q5', j1, j2, j3, j4, j5, hw2⟩ := (H2.out.under HD.out.1).cells hkm
        obtain ⟨A, hA⟩ : ∃ A, l[k] = A := ⟨_, rfl⟩
        obtain ⟨B, hB⟩ : ∃ B, m[k] = B := ⟨_, rfl⟩
        have HSD : Hid (sames l m = (same A B && sames (l.drop (k + 1)) (m.drop (k + 1)))) := by rw [Hid, HD.out.2, sames_drop hkl hkm, hA, hB]
        have hBn : wsz B.word < n := by rw [← hB, ← hn]; exact wsz_at m k hkm
        rw [hA] at i1 i2 i3 i4 i5 hw1 q4
        rw [hB] at j1 j2 j3 j4 j5 hw2 q4'
        rw [same_at] at HSD
        have E1 : ((kk : Int) == kk') = (A.kind == B.kind) := by rw [i1, j1, int_beq]
        have E2 : (t.toList == t'.toList) = (A.text == B.text) := by rw [str_eq, i2, j2]
        have E3 : (nm.toList == nm'.toList) = (A.name == B.name) := by rw [str_eq, i3, j3]
        have E4 : (o.toList == o'.toList) = (A.op == B.op) := by rw [str_eq, i4, j4]
        have E5 : (q == q') = (A.quoted == B.quoted) := by rw [i5, j5]
        obtain ⟨b1, hb1⟩ : ∃ b, (A.kind == B.kind) = b := ⟨_, rfl⟩
        obtain ⟨b2, hb2⟩ : ∃ b, (A.text == B.text) = b := ⟨_, rfl⟩
        obtain ⟨b3, hb3⟩ : ∃ b, (A.name == B.name) = b := ⟨_, rfl⟩
        obtain ⟨b4, hb4⟩ : ∃ b, (A.op == B.op) = b := ⟨_, rfl⟩
        obtain ⟨b5, hb5⟩ : ∃ b, (A.quoted == B.quoted) = b := ⟨_, rfl⟩
        obtain ⟨b6, hb6⟩ : ∃ b, sames A.word B.word = b := ⟨_, rfl⟩
        rw [hb1] at E1 HSD
        rw [hb2] at E2 HSD
        rw [hb3] at E3 HSD
        rw [hb4] at E4 HSD
        rw [hb5] at E5 HSD
        have HIH : Hid (∀ w', Below wr.heap.size wr w' → Calls Try.prog 18 #[.slice wa A.word.length wc, .slice wa' B.word.length wc'] w' (SPq w' (sames A.word B.word))) := fun w' hw => ih _ _ _ _ _ _ w' _ _ hBn (hw1.under hw) (hw2.under hw)
        rw [hb6] at HIH HSD
        have HD1 := Lib.hid HD.out.1
        obtain ⟨an, han⟩ : ∃ an, A.word.length = an := ⟨_, rfl⟩
        obtain ⟨bn, hbn⟩ : ∃ bn, B.word.length = bn := ⟨_, rfl⟩
        rw [han] at HIH q4
        rw [hbn] at HIH q4'
        have HF : Hid (¬ (kk = kk' ∧ b2 = true ∧ b3 = true ∧ b4 = true ∧ b5 = true ∧ b6 = true) → sames l m = false) := fun h => by
          rw [HSD.out]
          cases b2 <;> cases b3 <;> cases b4 <;> cases b5 <;> cases b6 <;> first | rfl | (simp at h ⊢; intro h1; exact absurd (by rw [h1] at E1; simpa using E1) h) | (simp at h ⊢)
        have HT : Hid (kk = kk' ∧ b2 = true ∧ b3 = true ∧ b4 = true ∧ b5 = true ∧ b6 = true → sames l m = sames (l.drop (k + 1)) (m.drop (k + 1))) := by
          rintro ⟨g1, rfl, rfl, rfl, rfl, rfl⟩
          rw [HSD.out, ← E1, g1]; simp
        have ad := addo6 b off k
        have ad' := addo6 b' off' k
        subst e1
        subst e1'
        clear hA hB hb1 hb2 hb3 hb4 hb5 hb6 i1 i2 i3 i4 i5 j1 j2 j3 j4 j5 hw1 hw2 hkl hkm HD han hbn hBn
        go_wp2_with (go_at_call 18; refine (HIH.out _ (((Below.refl _ _).alloc (Nat.le_refl _) _).alloc (by rw [size_alloc]; omega) _)).mono ?_; rintro e w8 ⟨rfl, h8⟩; have H8 : Hid (Below wr.heap.size wr w8) := Below.trans (((Below.refl _ _).alloc (Nat.le_refl _) _).alloc (by rw [size_alloc]; omega) _) (h8.mono (by rw [size_alloc, size_alloc]; omega)); clear h8; simp only [])
        all_goals first
          | (have hz : b6 = true := by
               have h : (!b6) = false := by assumption
               simpa using h
             refine ⟨⟨k + 1, by omega, by go_num, HD1.out.trans (H8.out.mono HD1.out.size), HT.out ⟨by assumption, by assumption, by assumption, by assumption, by assumption, hz⟩⟩, ?_⟩
             simp [intOf]; omega)
          | (have hf := HF.out (by
              rintro ⟨g1, g2, g3, g4, g5, g6⟩
              first
                | exact (by assumption : ¬ kk = kk') g1
                | exact (by assumption : ¬ b2 = true) g2
                | exact (by assumption : ¬ b3 = true) g3
                | exact (by assumption : ¬ b4 = true) g4
                | exact (by assumption : ¬ b5 = true) g5
                | (have h : (!b6) = true := by assumption
                   rw [g6] at h; cases h))
             rw [← HQ.out, hf]
             first
               | exact ⟨rfl, HD1.out.trans (H8.out.mono HD1.out.size)⟩
               | exact ⟨rfl, HD1.out.trans ((((Below.refl _ _).alloc (Nat.le_refl _) _).alloc (by rw [size_alloc]; omega) _).mono HD1.out.size)⟩)
      · obtain rfl : k = N := by omega
        have hltd : decide ((k : Int) < (k : Int)) = false := decide_eq_false (by omega)
        have HS : Hid (sames l m = true) := by
          rw [Hid, HD.out.2, List.drop_of_length_le (by rw [HN.out]; exact Nat.le_refl _), List.drop_of_length_le (by rw [← HL.out, HN.out]; exact Nat.le_refl _)]
          rfl
        go_wp2_with fail
        rw [← HQ.out, HS.out]
        exact ⟨rfl, HD.out.1⟩
  · have hlI : ((l.length : Int) == (m.length : Int)) = false := beq_eq_false_iff_ne.2 (by omega)
    have HS : Hid (sames l m = false) := sames_len hlen
    go_enter Try.func18, Try.ntmps18
    go_wp2_with fail
    rw [← HQ.out, HS.out]
    exact ⟨rfl, Below.refl _ _⟩
end Go.Proofs.Ytafbheplaheohaa

namespace Go.Proofs.Ytafbheplaheohaa
open Go.RowKit
set_option linter.unusedVariables false

/-- A token, as it lies. -/
structure Tk where
  k : Int
  t : ByteArray
  wv : Value
def Tk.cs (p : Tk) : List Value := [.int .i64 p.k, .string p.t, p.wv]
def tokK : Tok → Nat | .op _ => 2 | .word _ => 1
def tokT : Tok → Bz | .op t => t | .word _ => []
def tokW : Tok → List Prt | .op _ => [] | .word l => l
def Tk.is (p : Tk) (x : Tok) : Prop := p.k = (tokK x : Int) ∧ p.t.data.toList = tokT x
def tcs (L : List Tk) : List Value := L.flatMap Tk.cs
theorem tcs_len : ∀ L : List Tk, (tcs L).length = L.length * 3
  | [] => rfl
  | p :: L => by
    show (p.cs ++ tcs L).length = _
    rw [List.length_append, tcs_len L]; simp [Tk.cs]; omega
theorem tcs_at : ∀ (L : List Tk) (i q : Nat) (h : i < L.length), q < 3 → (tcs L)[i * 3 + q]? = L[i].cs[q]?
  | [], _, _, h, _ => absurd h (by simp)
  | p :: L, 0, q, _, hq => by
    show (p.cs ++ tcs L)[0 * 3 + q]? = _
    rw [Nat.zero_mul, Nat.zero_add, List.getElem?_append_left (by simpa [Tk.cs] using hq)]; rfl
  | p :: L, i + 1, q, h, hq => by
    show (p.cs ++ tcs L)[(i + 1) * 3 + q]? = _
    have hl : p.cs.length = 3 := rfl
    rw [List.getElem?_append_right (by rw [hl]; omega), hl, show (i + 1) * 3 + q - 3 = i * 3 + q by omega]
    exact tcs_at L i q (by simpa using h) hq
theorem tcs_app (L M : List Tk) : tcs (L ++ M) = tcs L ++ tcs M := by simp [tcs]
theorem info34 : (Try.prog.info? 34).map (fun i => (i.zero, i.size, i.bytes)) = some (some (.agg #[.int .i64 0, .string ⟨#[]⟩, .slice none 0 0]), 3, 48) := by kernel_rfl
/-- The tokens l, in a row of the call's own. -/
structure TRow (w : World) (B : Nat) (v : Value) (l : List Tok) (L : List Tk) : Prop where
  own : w.ownsRow B 34 3 v L.length (tcs L)
  len : L.length = l.length
  is : ∀ i (h : i < L.length) (h' : i < l.length), L[i].is l[i]
  word : ∀ i (h : i < L.length) (h' : i < l.length), Wd w (fun k => B ≤ k) L[i].wv (tokW l[i])
theorem TRow.nil (w : World) (B : Nat) : TRow w B (.slice none 0 0) [] [] := ⟨World.ownsRow_nil _ _ _ _, rfl, fun i h => absurd h (by simp), fun i h => absurd h (by simp)⟩
theorem TRow.keep {w w' : World} {B : Nat} {v : Value} {l : List Tok} {L : List Tk} (h : TRow w B v l L) (hk : ∀ (g : Nat) (c : Array Value) (ty : TypeId), B ≤ g → (ty = 34 ∨ ty = 39) → w.heap[g]? = some (Obj.cells c ty (0, 0)) → w'.heap[g]? = some (Obj.cells c ty (0, 0))) : TRow w' B v l L :=
  ⟨own_keep h.own fun g c hg h1 => hk g c 34 (h.own.lt g hg).1 (.inl rfl) h1, h.len, h.is, fun i h1 h2 => (h.word i h1 h2).keep fun g cur h3 h4 => ⟨h3, hk g cur 39 h3 (.inr rfl) h4⟩⟩
theorem TRow.under {w w' : World} {B : Nat} {v : Value} {l : List Tok} {L : List Tk} (h : TRow w B v l L) (hb : Below w.heap.size w w') : TRow w' B v l L :=
  h.keep fun g c ty _ _ h1 => (hb.block g (Array.getElem?_eq_some_iff.1 h1).1).trans h1
/-- What the reader alone turned leaves the tokens. -/
theorem TRow.rd {w w' : World} {B rb a : Nat} {S : ByteArray} {v : Value} {l : List Tok} {L : List Tk} (h : TRow w B v l L) (hr : Rd w rb S a) (ho : Only (fun k => k = rb) w w') : TRow w' B v l L :=
  h.keep fun g c ty _ ht h1 => (ho.block g (Array.getElem?_eq_some_iff.1 h1).1 (cells_ne h1 hr (by rcases ht with rfl | rfl <;> decide))).trans h1
theorem TRow.push {w : World} {B : Nat} {v : Value} {l : List Tok} {L : List Tk} (h : TRow w B v l L) (hB : B ≤ w.heap.size) (hl : L.length ≤ 100000) (tk : Tk) (x : Tok) (hx : tk.is x) (hw : Wd w (fun k => B ≤ k) tk.wv (tokW x)) :
    ∃ (a : Option Addr) (c : Nat) (w' : World), (Builtin.append_ #[23, 23] 23 #[v, .slice (some ⟨w.heap.size, 0, none⟩) 1 1]).run Try.prog (w.alloc (.cells tk.cs.toArray 34)) = .ok (.slice a (L.length + 1) c) w' ∧
      TRow w' B (.slice a (L.length + 1) c) (l ++ [x]) (L ++ [tk]) ∧ Below B w w' ∧ (∀ (k : Nat) (cur : Array Value) (ty : TypeId), ty ≠ 34 → w.heap[k]? = some (Obj.cells cur ty (0, 0)) → w'.heap[k]? = some (Obj.cells cur ty (0, 0))) := by
  obtain ⟨i0, hi, hz0, hz1, hz2⟩ := info_parts info34
  have hbel : Below w.heap.size w (w.alloc (.cells tk.cs.toArray 34)) := (Below.refl _ _).alloc (Nat.le_refl _) _
  have hs1 : (w.alloc (.cells tk.cs.toArray 34)).heap.size = w.heap.size + 1 := by simp
  have hown := own_keep h.own (w' := w.alloc (.cells tk.cs.toArray 34)) fun g c hg h1 => (hbel.block g (h.own.lt g hg).2).trans h1
  have u23 : Try.prog.underlying 23 = some (.slice 34) := by kernel_rfl
  obtain ⟨wa, wc, hwf⟩ := hw.form
  obtain ⟨v', wC, h2, h3, h4, h5⟩ := run_append_at (P := Try.prog) (w.alloc (.cells tk.cs.toArray 34)) B 23 23 34 i0 _ 3 48 u23 hi hz0 hz1 hz2 rfl (by decide) v L.length (tcs L) hown ⟨w.heap.size, 0, none⟩ 1 1 tk.cs rfl
    (fun j u hj => by
      rw [addn, Nat.zero_add]
      simp only [World.cell?, heap_alloc_new w]
      simpa using hj) (by intro u hu; simp only [Tk.cs, List.mem_cons, List.not_mem_nil, or_false] at hu; rcases hu with rfl | rfl | rfl <;> first | rfl | (rw [hwf]; rfl)) (by unfold maxLen; omega) (by omega) (by omega) (by decide)
  obtain ⟨a, c, hf⟩ : ∃ a c, v' = .slice a (L.length + 1) c := by
    rcases own_form h3 with ⟨_, h0⟩ | ⟨g, c, e, _⟩
    · omega
    · exact ⟨_, c, e⟩
  subst hf
  have hbC : Below B w wC := (hbel.mono hB).trans ((Only.of_grown (S := fun i => v.ownBlock = some i) h4 (fun k hk => hk)).below (fun k hk => (hown.lt k hk).1) (by omega))
  have hne : ∀ (k : Nat) (cur : Array Value) (ty : TypeId), ty ≠ 34 → w.heap[k]? = some (.cells cur ty (0, 0)) → v.ownBlock ≠ some k := fun k cur ty ht hc e => by
    rcases own_form h.own with ⟨e1, _⟩ | ⟨g, c', e1, _, _, cur', e2⟩
    · rw [e1] at e; cases e
    · rw [e1] at e; cases e
      exact cells_ne hc e2 ht rfl
  have hkC : ∀ (k : Nat) (cur : Array Value) (ty : TypeId), ty ≠ 34 → w.heap[k]? = some (Obj.cells cur ty (0, 0)) → wC.heap[k]? = some (Obj.cells cur ty (0, 0)) := fun k cur ty ht hc => by
    have hk := (Array.getElem?_eq_some_iff.1 hc).1
    exact ((h4.block k (by omega) (fun e => hne k cur ty ht hc e.symm)).trans (hbel.block k hk)).trans hc
  have hwd : ∀ {u m}, Wd w (fun k => B ≤ k) u m → Wd wC (fun k => B ≤ k) u m := fun hu => hu.keep fun k cur h1 h2 => ⟨h1, hkC k cur 39 (by decide) h2⟩
  refine ⟨a, c, wC, h2, ⟨?_, ?_, fun i h1 h2 => ?_, fun i h1 h2 => ?_⟩, hbC, hkC⟩
  · rw [List.length_append, tcs_app]; exact h3
  · rw [List.length_append, List.length_append, h.len]; rfl
  · by_cases hil : i < L.length
    · rw [List.getElem_append_left hil, List.getElem_append_left (by rw [← h.len]; exact hil)]
      exact h.is i hil _
    · have : i = L.length := by rw [List.length_append, List.length_singleton] at h1; omega
      subst this
      rw [List.getElem_append_right (Nat.le_refl _), List.getElem_append_right (by rw [h.len]; exact Nat.le_refl _)]
      simpa [h.len] using hx
  · by_cases hil : i < L.length
    · rw [List.getElem_append_left hil, List.getElem_append_left (by rw [← h.len]; exact hil)]
      exact hwd (h.word i hil _)
    · have : i = L.length := by rw [List.length_append, List.length_singleton] at h1; omega
      subst this
      rw [List.getElem_append_right (Nat.le_refl _), List.getElem_append_right (by rw [h.len]; exact Nat.le_refl _)]
      simpa [h.len] using hwd hw
/-- What lex.Tokens answers. -/
def TokP (w : World) (r : Res (List Tok)) (e : Ending) (w' : World) : Prop := match r with
  | .error x => e = .returned (.tuple #[.slice none 0 0, .int .i64 x]) ∧ x ≠ 0 ∧ Below w.heap.size w w'
  | .ok l => ∃ a c L, e = .returned (.tuple #[.slice a l.length c, .int .i64 0]) ∧ TRow w' w.heap.size (.slice a l.length c) l L ∧ Below w.heap.size w w' ∧ l.length ≤ 20000
/-- Where the tokens have come to. -/
structure TS (w wx : World) (S : ByteArray) (a : Nat) (v : Value) (l : List Tok) (L : List Tk) : Prop where
  rd : Rd wx w.heap.size S a
  le : a ≤ S.size
  row : TRow wx w.heap.size v l L
  below : Below w.heap.size w wx
  len : l.length ≤ a
  eq : tokC S.data.toList [] = tokC (S.data.toList.drop a) l
theorem tokensF_bad {s : Bz} (h : mayN s ≠ 0) : tokensF s = .error (mayN s) := by unfold tokensF; rw [if_pos h]
end Go.Proofs.Ytafbheplaheohaa
