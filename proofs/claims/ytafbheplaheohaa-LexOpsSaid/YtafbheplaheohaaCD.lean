import Derived.Test.YtafbheplaheohaaCC
namespace Go.Proofs.Ytafbheplaheohaa
open Go.RowKit
set_option linter.unusedVariables false

theorem TS.sk {w wx w5 : World} {S : ByteArray} {a a5 : Nat} {v : Value} {l : List Tok} {L : List Tk} (h : TS w wx S a v l L) (k : Sk wx w5 w.heap.size S a a5) : Rd w5 w.heap.size S a5 ∧ a5 ≤ S.size ∧ TRow w5 w.heap.size v l L ∧ Below w.heap.size w w5 ∧ l.length ≤ a5 :=
  ⟨k.rd, k.le, h.row.rd h.rd k.only, h.below.trans (k.only.below (fun i e => by omega) h.below.size), by have := h.len; have := k.ge; omega⟩
/-- What stands behind the skipping, for any later world. -/
structure TU (w wx : World) (S : ByteArray) (a : Nat) (v : Value) (l : List Tok) (L : List Tk) : Prop where
  rd : Rd wx w.heap.size S a
  row : TRow wx w.heap.size v l L
  below : Below w.heap.size w wx
theorem TU.under {w wx w' : World} {S : ByteArray} {a : Nat} {v : Value} {l : List Tok} {L : List Tk} (h : TU w wx S a v l L) (hb : Below wx.heap.size wx w') : TU w w' S a v l L :=
  ⟨h.rd.under hb, h.row.under hb, h.below.trans (hb.mono h.below.size)⟩
theorem tk_op {t : ByteArray} {o : Bz} (h : t.data.toList = o) : (Tk.mk 2 t (.slice none 0 0)).is (.op o) := ⟨rfl, h⟩
theorem tk_word (v : Value) (l : List Prt) : (Tk.mk 1 ⟨#[]⟩ v).is (.word l) := ⟨rfl, rfl⟩
set_option maxRecDepth 100000 in
set_option maxHeartbeats 8000000 in
theorem Tokens_any (S : ByteArray) (w : World) (hs : S.size ≤ 9000000000000000000) : Calls Try.prog 13 #[.string S] w (TokP w (tokensF S.data.toList)) := by
  obtain ⟨Q, hQ⟩ : ∃ Q, TokP w (tokensF S.data.toList) = Q := ⟨_, rfl⟩
  rw [hQ]
  have HQ := Lib.hid hQ
  have HRE := Lib.hid (readable_any S w hs)
  clear hQ
  by_cases hm : mayN S.data.toList = 0
  · rw [hm] at HRE
    have HF : Hid (tokensF S.data.toList = tokC S.data.toList []) := tokensF_all hm
    have hs2 : S.size ≤ 16384 := by
      by_cases h : S.size ≤ 16384
      · exact h
      · unfold mayN at hm; rw [dl, if_pos (by omega)] at hm; cases hm
    have hbe : Below w.heap.size w (w.alloc (.cells #[.string S, .int .i64 0] 53)) := (Below.refl _ _).alloc (Nat.le_refl _) _
    have HT0 : Hid (TS w (w.alloc (.cells #[.string S, .int .i64 0] 53)) S 0 (.slice none 0 0) [] []) := ⟨heap_alloc_new w _, Nat.zero_le _, TRow.nil _ _, hbe, Nat.zero_le _, rfl⟩
    have HBAD : Hid (∀ x wx, x ≠ 0 → tokC S.data.toList [] = .error x → Below w.heap.size w wx → Q (.returned (.tuple #[.slice none 0 0, .int .i64 x])) wx) := fun x wx h1 h2 h3 => by
      rw [← HQ.out, HF.out, h2]; exact ⟨rfl, h1, h3⟩
    have HEND : Hid (∀ a n c wx l L, n = L.length → l.length ≤ 20000 → tokC S.data.toList [] = .ok l → TRow wx w.heap.size (.slice a n c) l L → Below w.heap.size w wx → Q (.returned (.tuple #[.slice a n c, .int .i64 0])) wx) := fun a n c wx l L h1 hl h2 h3 h4 => by
      rw [← HQ.out, HF.out, h2]
      rw [h1, h3.len] at h3 ⊢
      exact ⟨a, c, L, rfl, h3, h4, hl⟩
    clear hbe hm
    go_enter Try.func13, Try.ntmps13
    go_wp2_with fail
    refine wp_scope_straight ?_
    go_wp2_with (go_at_call 19; refine HRE.out.mono ?_; rintro e w1 ⟨rfl, h1⟩; obtain rfl := h1.symm; simp only [])
    refine wp_label ?_
    go_wp2_with fail
    go_loopw [5] (fun v wx => ∃ a n c, v = .slice a n c ∧ ∃ a' l L, n = List.length L ∧ Hid (TS w wx S a' (.slice a n c) l L)) (fun _ wx => mea w.heap.size (.int .i64 0) wx)
    case atStart => exact ⟨none, 0, 0, rfl, 0, [], [], rfl, HT0.out⟩
    case round =>
      obtain ⟨va, n, vc, rfl, a', l, L, hn, HS⟩ := hrel
      have HSK := Lib.hid (skip_any HS.out.rd HS.out.le (by omega))
      have HN := Lib.hid hn
      clear hn
      go_wp2_with (go_at_call 20; refine HSK.out.mono ?_; rintro e w5 ⟨rfl, a5, hsk, hdr⟩; have HSKK := Lib.hid hsk; have HDR := Lib.hid hdr; clear hsk hdr; simp only [])
      obtain ⟨hrd5, hle5, hrow5, hb5, hl5⟩ := HS.out.sk HSKK.out
      have HU : Hid (TU w w5 S a5 (.slice va n vc) l L) := ⟨hrd5, hrow5, hb5⟩
      have hge := HSKK.out.ge
      have hrb : w.heap.size < (w.alloc (.cells #[.string S, .int .i64 0] 53)).heap.size := by simp
      have HMB : Hid (mea w.heap.size (.int .i64 0) wr = 20001 - a') := mea_at HS.out.rd
      have HEQ := Lib.hid HS.out.eq
      have HR3 : Hid (Calls Try.prog 21 #[.pointer (some ⟨w.heap.size, 0, none⟩)] w5 fun e w' => e = .returned (.string (S.extract a5 S.size)) ∧ Below w5.heap.size w5 w') := rest_any _ S a5 w5 hrd5 hle5 (by omega)
      have hX := ext_end (t := S) (a := a5) hle5
      obtain ⟨X, hXX⟩ : ∃ X, S.extract a5 S.size = X := ⟨_, rfl⟩
      rw [hXX] at HR3 hX
      clear hXX hrd5 hrow5 hb5
      by_cases hlt : a5 < S.size
      · have hX0 : 0 < X.size := by omega
        have hX0I : (0 : Int) < (X.size : Int) := by omega
        have hat := data_get X 0 hX0
        obtain ⟨c, hc⟩ : ∃ c, X[0]'hX0 = c := ⟨_, rfl⟩
        rw [hc] at hat
        have hxd : X.data.toList = c :: X.data.toList.drop 1 := at_drop hat
        obtain ⟨r, hr⟩ : ∃ r, X.data.toList.drop 1 = r := ⟨_, rfl⟩
        rw [hr] at hxd
        have hXE : X.toList.isEmpty = false := isE_ne (by rw [hxd]; simp)
        have HOP := Lib.hid (fun w => operator_any X w (by omega))
        have HSD : Hid (S.data.toList.drop a5 = c :: r) := by rw [Hid, ← hX.1]; exact hxd
        have hrl : r.length + 1 = S.size - a5 := by have := congrArg List.length HSD.out; rw [List.length_drop, dl] at this; simp at this; omega
        have HSF : Hid (skipF false (S.data.toList.drop a') = c :: r) := HDR.out.symm.trans HSD.out
        have hXs : X.size ≤ 20000 := by omega
        rw [hxd] at HOP
        have h38 := byte_eq c 38
        rw [show ((38 : UInt8).toNat : Int) = 38 from rfl] at h38
        by_cases ho : operator (c :: r) = []
        · rw [ho] at HOP
          by_cases e38 : c = 38
          · have hz38 : ((c.toNat : Int) == 38) = true := by rw [h38, e38]; rfl
            have HE : Hid (tokC S.data.toList [] = .error 2) := by rw [Hid, HEQ.out]; subst e38; exact tokC_bad HSF.out ho
            clear h38 hX hat hxd ho
            go_wp2_with (first
              | (go_at_call 21; refine HR3.out.mono ?_; rintro e w6 ⟨rfl, h6⟩; have HU6 := Lib.hid (HU.out.under h6); clear h6; simp only [])
              | (go_at_call 22; refine (HOP.out _).mono ?_; rintro e w7 ⟨⟨t, ht, rfl⟩, h7⟩; obtain rfl := h7.symm; have htE := isE_of ht; clear ht; simp only []))
            exact HBAD.out 2 _ (by decide) HE.out HU6.out.below
          · have hz38 : ((c.toNat : Int) == 38) = false := by rw [h38]; simpa using e38
            have HW : Hid (∀ w6, TU w w6 S a5 (.slice va n vc) l L → Calls Try.prog 23 #[.pointer (some ⟨w.heap.size, 0, none⟩), .int .i64 1, .bool false, .int .i64 0] w6 (WordP w6 w.heap.size S (allR (readC 1 false 0 ps0 (S.data.toList.drop a5))))) := fun w6 h => word_any false 0 1 (by decide) (by decide) h.rd hle5 (by omega)
            have HWF : Hid (wordF 1 (c :: r) = allR (readC 1 false 0 ps0 (S.data.toList.drop a5))) := by rw [Hid, HSD.out]; exact wordF_eq 1 _
            have H38 := Lib.hid e38
            have HO := Lib.hid ho
            clear h38 hX hat hxd ho e38
            generalize allR (readC 1 false 0 ps0 (S.data.toList.drop a5)) = z at HW HWF
            rcases z with x | ⟨wl, t⟩
            · have HE : Hid (tokC S.data.toList [] = .error x) := by rw [Hid, HEQ.out]; exact tokC_err HSF.out HO.out H38.out HWF.out
              unfold WordP at HW
              simp only at HW
              go_wp2_with (first
                | (go_at_call 21; refine HR3.out.mono ?_; rintro e w6 ⟨rfl, h6⟩; have HU6 := Lib.hid (HU.out.under h6); clear h6; simp only [])
                | (go_at_call 22; refine (HOP.out _).mono ?_; rintro e w7 ⟨⟨t, ht, rfl⟩, h7⟩; obtain rfl := h7.symm; have htE := isE_of ht; clear ht; simp only [])
                | (go_at_call 23; refine (HW.out _ HU6.out).mono ?_; rintro e w8 ⟨rfl, hx0, ho8, _⟩; have hxI : ((x : Int) == 0) = false := beq_eq_false_iff_ne.2 (by omega); have HX0 := Lib.hid hx0; have HO8 := Lib.hid ho8; clear hx0 ho8; simp only []))
              exact HBAD.out x _ HX0.out HE.out (HU6.out.below.trans (HO8.out.below (fun i e => by omega) HU6.out.below.size))
            · have HE : Hid (tokC S.data.toList [] = tokC t (l ++ [.word wl]) ∧ t.length ≤ r.length) := by
                have h := tokC_word (l := l) HSF.out HO.out H38.out HWF.out
                exact ⟨HEQ.out.trans h.1, h.2⟩
              unfold WordP at HW
              simp only at HW
              have HW2 : Hid (∀ w6, TU w w6 S a5 (.slice va n vc) l L → Calls Try.prog 23 #[.pointer (some ⟨w.heap.size, 0, none⟩), .int .i64 1, .bool false, .int .i64 0] w6 fun e w' => ∃ ua un uc a9, e = .returned (.tuple #[.slice ua un uc, .int .i64 0]) ∧ TU w w' S a9 (.slice va n vc) l L ∧ Wd w' (fun k => w.heap.size ≤ k) (.slice ua un uc) wl ∧ a9 ≤ S.size ∧ S.data.toList.drop a9 = t) := fun w6 h => (HW.out w6 h).mono (by
                rintro e w' ⟨ho, v, a9, rfl, hwd, hrd, hle, hdr⟩
                obtain ⟨ua, uc, rfl⟩ := hwd.form
                exact ⟨ua, _, uc, a9, rfl, ⟨hrd, h.row.rd h.rd ho, h.below.trans (ho.below (fun i e => by omega) h.below.size)⟩, hwd.mono fun k hk => Nat.le_trans h.below.size hk, hle, hdr⟩)
              clear HW
              go_wp2_with (first
                | (go_at_call 21; refine HR3.out.mono ?_; rintro e w6 ⟨rfl, h6⟩; have HU6 := Lib.hid (HU.out.under h6); clear h6; simp only [])
                | (go_at_call 22; refine (HOP.out _).mono ?_; rintro e w7 ⟨⟨t, ht, rfl⟩, h7⟩; obtain rfl := h7.symm; have htE := isE_of ht; clear ht; simp only [])
                | (go_at_call 23; refine (HW2.out _ HU6.out).mono ?_; rintro e w8 ⟨ua, un, uc, a9, rfl, hu8, hwd8, hle9, hdr9⟩
                   obtain ⟨a2, c2, w10, r10, hrow10, hb10, hk10⟩ := TRow.push hu8.row hu8.below.size (by rw [hu8.row.len]; omega) ⟨1, ⟨#[]⟩, .slice ua un uc⟩ (.word wl) (tk_word _ _) hwd8
                   rw [← HN.out] at r10 hrow10
                   have HR10 : Hid (TU w w10 S a9 (.slice a2 (n + 1) c2) (l ++ [.word wl]) (L ++ [⟨1, ⟨#[]⟩, .slice ua un uc⟩])) := ⟨hk10 _ _ 53 (by decide) hu8.rd, hrow10, hu8.below.trans hb10⟩
                   have H9 := Lib.hid (And.intro hle9 hdr9)
                   clear hu8 hwd8 hle9 hdr9 hrow10 hb10 hk10
                   simp only [])
                | (at_builtin; refine wpList_run_append _ rfl _ _ 23 23 rfl _ _ rfl rfl r10 ?_))
              have ht9 : S.size - a9 ≤ r.length := by have := HE.out.2; rw [← H9.out.2, List.length_drop, dl] at this; exact this
              have hle9 := H9.out.1
              have HTS : Hid (TS w w10 S a9 (.slice a2 (n + 1) c2) (l ++ [.word wl]) (L ++ [⟨1, ⟨#[]⟩, .slice ua un uc⟩])) := ⟨HR10.out.rd, hle9, HR10.out.row, HR10.out.below, by simp; omega, by rw [H9.out.2]; exact HE.out.1⟩
              go_roundw
              case measure => rw [mea_at HTS.out.rd, HMB.out]; omega
              case rel => exact ⟨a2, n + 1, c2, rfl, a9, _, _, by rw [List.length_append, ← HN.out]; rfl, HTS.out⟩
        · have hol := op_len _ ho
          have HO := Lib.hid ho
          obtain ⟨o, hoo⟩ : ∃ o, operator (c :: r) = o := ⟨_, rfl⟩
          have HE : Hid (tokC S.data.toList [] = tokC ((c :: r).drop o.length) (l ++ [.op o])) := by rw [Hid, HEQ.out, ← hoo]; exact tokC_op HSF.out ho
          rw [hoo] at HOP hol ho
          have hol1 := hol.1
          have hol2 : o.length ≤ r.length + 1 := hol.2.1
          clear h38 hX hat hxd hoo hol
          go_wp2_with (first
            | (go_at_call 21; refine HR3.out.mono ?_; rintro e w6 ⟨rfl, h6⟩; have HU6 := Lib.hid (HU.out.under h6); clear h6; simp only [])
            | (go_at_call 22; refine (HOP.out _).mono ?_; rintro e w7 ⟨⟨t, ht, rfl⟩, h7⟩; obtain rfl := h7.symm
               have htE : t.toList.isEmpty = false := isE_ne (by rw [ht]; exact ho)
               have HTZ : Hid (t.size = o.length) := by rw [Hid, ← dl, ht]
               have hw1 : IntKind.i64.wrap ((a5 : Int) + (t.size : Int)) = (a5 : Int) + (t.size : Int) := IntWalk.i64_in _ (by have := HTZ.out; omega)
               obtain ⟨a2, c2, w10, r10, hrow10, hb10, hk10⟩ := TRow.push HU6.out.row HU6.out.below.size (by rw [HU6.out.row.len]; omega) ⟨2, t, .slice none 0 0⟩ (.op o) (tk_op ht) (.nil 0)
               rw [← HN.out] at r10 hrow10
               have HR10 : Hid (TU w w10 S a5 (.slice a2 (n + 1) c2) (l ++ [.op o]) (L ++ [⟨2, t, .slice none 0 0⟩])) := ⟨hk10 _ _ 53 (by decide) HU6.out.rd, hrow10, HU6.out.below.trans hb10⟩
               have q1 : w10.cell? ⟨w.heap.size, 1, none⟩ = some (.int .i64 a5) := cell_of HR10.out.rd 1
               have f1 := free_of HR10.out.rd 1
               clear ht hrow10 hb10 hk10
               simp only [])
            | (at_builtin; refine wpList_run_append _ rfl _ _ 23 23 rfl _ _ rfl rfl r10 ?_))
          have HTS : Hid (TS w (w10.setCell ⟨w.heap.size, 1, none⟩ (.int .i64 ((a5 : Int) + (t.size : Int)))) S (a5 + t.size) (.slice a2 (n + 1) c2) (l ++ [.op o]) (L ++ [⟨2, t, .slice none 0 0⟩])) := by
            have hts := HTZ.out
            refine ⟨HR10.out.rd.setI _ (by omega), by omega, HR10.out.row.keep fun g cur ty _ ht hc => (heap_other (cells_ne hc HR10.out.rd (by rcases ht with rfl | rfl <;> decide)) _ _).trans hc, HR10.out.below.setCell (Nat.le_refl _) _, by simp; omega, ?_⟩
            rw [HE.out, ← HSD.out, List.drop_drop, hts]
          go_roundw
          case measure => rw [mea_at HTS.out.rd, HMB.out]; have := HTZ.out; omega
          case rel => exact ⟨a2, n + 1, c2, rfl, _, _, _, by rw [List.length_append, ← HN.out]; rfl, HTS.out⟩
      · have hXE : X.toList.isEmpty = true := isE_of (by rw [hX.1, List.drop_of_length_le (by rw [dl]; omega)])
        have HE : Hid (tokC S.data.toList [] = .ok l) := by
          rw [Hid, HEQ.out]
          refine tokC_nil ?_
          rw [← HDR.out, List.drop_of_length_le (by rw [dl]; omega)]
        clear hX
        go_wp2_with (go_at_call 21; refine HR3.out.mono ?_; rintro e w6 ⟨rfl, h6⟩; have HU6 := Lib.hid (HU.out.under h6); clear h6; simp only [])
        exact HEND.out _ _ _ _ l L HN.out (by omega) HE.out HU6.out.row HU6.out.below
  · have HF : Hid (tokensF S.data.toList = .error (mayN S.data.toList)) := tokensF_bad hm
    obtain ⟨x, hx⟩ : ∃ x, mayN S.data.toList = x := ⟨_, rfl⟩
    rw [hx] at HRE HF hm
    have hxI : ((x : Int) == 0) = false := beq_eq_false_iff_ne.2 (by omega)
    have HM := Lib.hid hm
    clear hx hm
    go_enter Try.func13, Try.ntmps13
    go_wp2_with fail
    refine wp_scope_straight ?_
    go_wp2_with (go_at_call 19; refine HRE.out.mono ?_; rintro e w1 ⟨rfl, h1⟩; obtain rfl := h1.symm; simp only [])
    rw [← HQ.out, HF.out]
    exact ⟨rfl, HM.out, Below.refl _ _⟩
end Go.Proofs.Ytafbheplaheohaa
