import Derived.Test.YtafbheplaheohaaY
import Derived.Deep.RegionHeld3
namespace Go.Proofs.Ytafbheplaheohaa
open Go.RowKit
set_option linter.unusedVariables false

theorem TS.sk {w wx w5 : World} {S : ByteArray} {a a5 : Nat} {v : Value} {l : List Tok} {L : List Tk} (h : TS w wx S a v l L) (k : Sk wx w5 w.heap.size S a a5) : Rd w5 w.heap.size S a5 ∧ a5 ≤ S.size ∧ TRow w5 w.heap.size v l L ∧ Below w.heap.size w w5 ∧ l.length ≤ a5 :=
  ⟨k.rd, k.le, h.row.rd h.rd k.only, h.below.trans (k.only.below (fun i e => by omega) h.below.size), by have := h.len; have := k.ge; omega⟩
/-- What stands behind the skipping, for any later world. -/
structure TU (w wx : World) (S : ByteArray) (a : Nat) (v : Value) (l : List Tok) (L : List Tk) : Prop where
  rd : Rd wx w.heap.size S a
  row : TRow wx w.heap.size v l L
  below : Below w.heap.size w wx
theorem TU.under {w wx w' : World} {S : ByteArray} {a : Nat} {v : Value} {l : List Tok} {L : List Tk} (h : TU w wx S a v l L) (hb : Below wx.heap.size wx w') : TU w w' S a v l L :=
  ⟨h.rd.under hb, h.row.under hb, h.below.trans (hb.mono h.below.size)⟩
theorem tk_op {t : ByteArray} {o : Bz} (h : t.data.toList = o) : (Tk.mk 2 t (.slice none 0 0)).is (.op o) := ⟨rfl, h⟩
theorem tk_word (v : Value) (l : List Prt) : (Tk.mk 1 ⟨#[]⟩ v).is (.word l) := ⟨rfl, rfl⟩
set_option maxRecDepth 100000 in
set_option maxHeartbeats 8000000 in
theorem Tokens_any (S : ByteArray) (w : World) (hs : S.size ≤ 9000000000000000000) : Calls Try.prog 13 #[.string S] w (TokP w (tokensF S.data.toList)) := by
  obtain ⟨Q, hQ⟩ : ∃ Q, TokP w (tokensF S.data.toList) = Q := ⟨_, rfl⟩
  rw [hQ]
  have HQ := Lib.hid hQ
  have HRE := Lib.hid (readable_any S w hs)
  clear hQ
  by_cases hm : mayN S.data.toList = 0
  · rw [hm] at HRE
    have HF : Hid (tokensF S.data.toList = tokC S.data.toList []) := tokensF_all hm
    have hs2 : S.size ≤ 16384 := by
      by_cases h : S.size ≤ 16384
      · exact h
      · unfold mayN at hm; rw [dl, if_pos (by omega)] at hm; cases hm
    have hbe : Below w.heap.size w (w.alloc (.cells #[.string S, .int .i64 0] 53)) := (Below.refl _ _).alloc (Nat.le_refl _) _
    have HT0 : Hid (TS w (w.alloc (.cells #[.string S, .int .i64 0] 53)) S 0 (.slice none 0 0) [] []) := ⟨heap_alloc_new w _, Nat.zero_le _, TRow.nil _ _, hbe, Nat.zero_le _, rfl⟩
    have HBAD : Hid (∀ x wx, x ≠ 0 → tokC S.data.toList [] = .error x → Below w.heap.size w wx → Q (.returned (.tuple #[.slice none 0 0, .int .i64 x])) wx) := fun x wx h1 h2 h3 => by
      rw [← HQ.out, HF.out, h2]; exact ⟨rfl, h1, h3⟩
    have HEND : Hid (∀ a n c wx l L, n = L.length → l.length ≤ 20000 → tokC S.data.toList [] = .ok l → TRow wx w.heap.size (.slice a n c) l L → Below w.heap.size w wx → Q (.returned (.tuple #[.slice a n c, .int .i64 0])) wx) := fun a n c wx l L h1 hl h2 h3 h4 => by
      rw [← HQ.out, HF.out, h2]
      rw [h1, h3.len] at h3 ⊢
      exact ⟨a, c, L, rfl, h3, h4, hl⟩
    clear hbe hm
    go_enter Try.func13, Try.ntmps13
    go_wp2_with fail
    refine wp_scope_straight ?_
    go_wp2_with (go_at_call 19; refine HRE.out.mono ?_; rintro e w1 ⟨rfl, h1⟩; obtain rfl := h1.symm; simp only [])
    refine wp_label ?_
    go_wp2_with fail
    go_loopw [5] (fun v wx => ∃ a n c, v = .slice a n c ∧ ∃ a' l L, n = List.length L ∧ Hid (TS w wx S a' (.slice a n c) l L)) (fun _ wx => mea w.heap.size (.int .i64 0) wx)
    case atStart => exact ⟨none, 0, 0, rfl, 0, [], [], rfl, HT0.out⟩
    case round =>
      obtain ⟨va, n, vc, rfl, a', l, L, hn, HS⟩ := hrel
      have HSK := Lib.hid (skip_any HS.out.rd HS.out.le (by omega))
      have HN := Lib.hid hn
      clear hn
      go_wp2_with (go_at_call 20; refine HSK.out.mono ?_; rintro e w5 ⟨rfl, a5, hsk, hdr⟩; have HSKK := Lib.hid hsk; have HDR := Lib.hid hdr; clear hsk hdr; simp only [])
      obtain ⟨hrd5, hle5, hrow5, hb5, hl5⟩ := HS.out.sk HSKK.out
      have HU : Hid (TU w w5 S a5 (.slice va n vc) l L) := ⟨hrd5, hrow5, hb5⟩
      have hge := HSKK.out.ge
      have hrb : w.heap.size < (w.alloc (.cells #[.string S, .int .i64 0] 53)).heap.size := by simp
      have HMB : Hid (mea w.heap.size (.int .i64 0) wr = 20001 - a') := mea_at HS.out.rd
      have HEQ := Lib.hid HS.out.eq
      have HR3 : Hid (Calls Try.prog 21 #[.pointer (some ⟨w.heap.size, 0, none⟩)] w5 fun e w' => e = .returned (.string (S.extract a5 S.size)) ∧ Below w5.heap.size w5 w') := rest_any _ S a5 w5 hrd5 hle5 (by omega)
      have hX := ext_end (t := S) (a := a5) hle5
      obtain ⟨X, hXX⟩ : ∃ X, S.extract a5 S.size = X := ⟨_, rfl⟩
      rw [hXX] at HR3 hX
      clear hXX hrd5 hrow5 hb5
      by_cases hlt : a5 < S.size
      · have hX0 : 0 < X.size := by omega
        have hX0I : (0 : Int) < (X.size : Int) := by omega
        have hat := data_get X 0 hX0
        obtain ⟨c, hc⟩ : ∃ c, X[0]'hX0 = c := ⟨_, rfl⟩
        rw [hc] at hat
        have hxd : X.data.toList = c :: X.data.toList.drop 1 := at_drop hat
        obtain ⟨r, hr⟩ : ∃ r, X.data.toList.drop 1 = r := ⟨_, rfl⟩
        rw [hr] at hxd
        have hXE : X.toList.isEmpty = false := isE_ne (by rw [hxd]; simp)
        have HOP := Lib.hid (fun w => operator_any X w (by omega))
        have HSD : Hid (S.data.toList.drop a5 = c :: r) := by rw [Hid, ← hX.1]; exact hxd
        have hrl : r.length + 1 = S.size - a5 := by have := congrArg List.length HSD.out; rw [List.length_drop, dl] at this; simp at this; omega
        have HSF : Hid (skipF false (S.data.toList.drop a') = c :: r) := HDR.out.symm.trans HSD.out
        have hXs : X.size ≤ 20000 := by omega
        rw [hxd] at HOP
        have h38 := byte_eq c 38
        rw [show ((38 : UInt8).toNat : Int) = 38 from rfl] at h38
        by_cases ho : operator (c :: r) = []
        · rw [ho] at HOP
          by_cases e38 : c = 38
          · have hz38 : ((c.toNat : Int) == 38) = true := by rw [h38, e38]; rfl
            have HE : Hid (tokC S.data.toList [] = .error 2) := by rw [Hid, HEQ.out]; subst e38; exact tokC_bad HSF.out ho
            clear h38 hX hat hxd ho
            go_wp2_with (first
              | (go_at_call 21; refine HR3.out.mono ?_; rintro e w6 ⟨rfl, h6⟩; have HU6 := Lib.hid (HU.out.under h6); clear h6; simp only [])
              | (go_at_call 22; refine (HOP.out _).mono ?_; rintro e w7 ⟨⟨t, ht, rfl⟩, h7⟩; obtain rfl := h7.symm; have htE := isE_of ht; clear ht; simp only []))
            exact HBAD.out 2 _ (by decide) HE.out HU6.out.below
          · have hz38 : ((c.toNat : Int) == 38) = false := by rw [h38]; simpa using e38
            have HW : Hid (∀ w6, TU w w6 S a5 (.slice va n vc) l L → Calls Try.prog 23 #[.pointer (some ⟨w.heap.size, 0, none⟩), .int .i64 1, .bool false, .int .i64 0] w6 (WordP w6 w.heap.size S (allR (readC 1 false 0 ps0 (S.data.toList.drop a5))))) := fun w6 h => word_any false 0 1 (by decide) (by decide) h.rd hle5 (by omega)
            have HWF : Hid (wordF 1 (c :: r) = allR (readC 1 false 0 ps0 (S.data.toList.drop a5))) := by rw [Hid, HSD.out]; exact wordF_eq 1 _
            have H38 := Lib.hid e38
            have HO := Lib.hid ho
            clear h38 hX hat hxd ho e38
            generalize allR (readC 1 false 0 ps0 (S.data.toList.drop a5)) = z at HW HWF
            rcases z with x | ⟨wl, t⟩
            · have HE : Hid (tokC S.data.toList [] = .error x) := by rw [Hid, HEQ.out]; exact tokC_err HSF.out HO.out H38.out HWF.out
              unfold WordP at HW
              simp only at HW
              go_wp2_with (first
                | (go_at_call 21; refine HR3.out.mono ?_; rintro e w6 ⟨rfl, h6⟩; have HU6 := Lib.hid (HU.out.under h6); clear h6; simp only [])
                | (go_at_call 22; refine (HOP.out _).mono ?_; rintro e w7 ⟨⟨t, ht, rfl⟩, h7⟩; obtain rfl := h7.symm; have htE := isE_of ht; clear ht; simp only [])
                | (go_at_call 23; refine (HW.out _ HU6.out).mono ?_; rintro e w8 ⟨rfl, hx0, ho8, _⟩; have hxI : ((x : Int) == 0) = false := beq_eq_false_iff_ne.2 (by omega); have HX0 := Lib.hid hx0; have HO8 := Lib.hid ho8; clear hx0 ho8; simp only []))
              exact HBAD.out x _ HX0.out HE.out (HU6.out.below.trans (HO8.out.below (fun i e => by omega) HU6.out.below.size))
            · have HE : Hid (tokC S.data.toList [] = tokC t (l ++ [.word wl]) ∧ t.length ≤ r.length) := by
                have h := tokC_word (l := l) HSF.out HO.out H38.out HWF.out
                exact ⟨HEQ.out.trans h.1, h.2⟩
              unfold WordP at HW
              simp only at HW
              have HW2 : Hid (∀ w6, TU w w6 S a5 (.slice va n vc) l L → Calls Try.prog 23 #[.pointer (some ⟨w.heap.size, 0, none⟩), .int .i64 1, .bool false, .int .i64 0] w6 fun e w' => ∃ ua un uc a9, e = .returned (.tuple #[.slice ua un uc, .int .i64 0]) ∧ TU w w' S a9 (.slice va n vc) l L ∧ Wd w' (fun k => w.heap.size ≤ k) (.slice ua un uc) wl ∧ a9 ≤ S.size ∧ S.data.toList.drop a9 = t) := fun w6 h => (HW.out w6 h).mono (by
                rintro e w' ⟨ho, v, a9, rfl, hwd, hrd, hle, hdr⟩
                obtain ⟨ua, uc, rfl⟩ := hwd.form
                exact ⟨ua, _, uc, a9, rfl, ⟨hrd, h.row.rd h.rd ho, h.below.trans (ho.below (fun i e => by omega) h.below.size)⟩, hwd.mono fun k hk => Nat.le_trans h.below.size hk, hle, hdr⟩)
              clear HW
              go_wp2_with (first
                | (go_at_call 21; refine HR3.out.mono ?_; rintro e w6 ⟨rfl, h6⟩; have HU6 := Lib.hid (HU.out.under h6); clear h6; simp only [])
                | (go_at_call 22; refine (HOP.out _).mono ?_; rintro e w7 ⟨⟨t, ht, rfl⟩, h7⟩; obtain rfl := h7.symm; have htE := isE_of ht; clear ht; simp only [])
                | (go_at_call 23; refine (HW2.out _ HU6.out).mono ?_; rintro e w8 ⟨ua, un, uc, a9, rfl, hu8, hwd8, hle9, hdr9⟩
                   obtain ⟨a2, c2, w10, r10, hrow10, hb10, hk10⟩ := TRow.push hu8.row hu8.below.size (by rw [hu8.row.len]; omega) ⟨1, ⟨#[]⟩, .slice ua un uc⟩ (.word wl) (tk_word _ _) hwd8
                   rw [← HN.out] at r10 hrow10
                   have HR10 : Hid (TU w w10 S a9 (.slice a2 (n + 1) c2) (l ++ [.word wl]) (L ++ [⟨1, ⟨#[]⟩, .slice ua un uc⟩])) := ⟨hk10 _ _ 53 (by decide) hu8.rd, hrow10, hu8.below.trans hb10⟩
                   have H9 := Lib.hid (And.intro hle9 hdr9)
                   clear hu8 hwd8 hle9 hdr9 hrow10 hb10 hk10
                   simp only [])
                | (at_builtin; refine wpList_run_append _ rfl _ _ 23 23 rfl _ _ rfl rfl r10 ?_))
              have ht9 : S.size - a9 ≤ r.length := by have := HE.out.2; rw [← H9.out.2, List.length_drop, dl] at this; exact this
              have hle9 := H9.out.1
              have HTS : Hid (TS w w10 S a9 (.slice a2 (n + 1) c2) (l ++ [.word wl]) (L ++ [⟨1, ⟨#[]⟩, .slice ua un uc⟩])) := ⟨HR10.out.rd, hle9, HR10.out.row, HR10.out.below, by simp; omega, by rw [H9.out.2]; exact HE.out.1⟩
              go_roundw
              case measure => rw [mea_at HTS.out.rd, HMB.out]; omega
              case rel => exact ⟨a2, n + 1, c2, rfl, a9, _, _, by rw [List.length_append, ← HN.out]; rfl, HTS.out⟩
        · have hol := op_len _ ho
          have HO := Lib.hid ho
          obtain ⟨o, hoo⟩ : ∃ o, operator (c :: r) = o := ⟨_, rfl⟩
          have HE : Hid (tokC S.data.toList [] = tokC ((c :: r).drop o.length) (l ++ [.op o])) := by rw [Hid, HEQ.out, ← hoo]; exact tokC_op HSF.out ho
          rw [hoo] at HOP hol ho
          have hol1 := hol.1
          have hol2 : o.length ≤ r.length + 1 := hol.2.1
          clear h38 hX hat hxd hoo hol
          go_wp2_with (first
            | (go_at_call 21; refine HR3.out.mono ?_; rintro e w6 ⟨rfl, h6⟩; have HU6 := Lib.hid (HU.out.under h6); clear h6; simp only [])
            | (go_at_call 22; refine (HOP.out _).mono ?_; rintro e w7 ⟨⟨t, ht, rfl⟩, h7⟩; obtain rfl := h7.symm
               have htE : t.toList.isEmpty = false := isE_ne (by rw [ht]; exact ho)
               have HTZ : Hid (t.size = o.length) := by rw [Hid, ← dl, ht]
               have hw1 : IntKind.i64.wrap ((a5 : Int) + (t.size : Int)) = (a5 : Int) + (t.size : Int) := IntWalk.i64_in _ (by have := HTZ.out; omega)
               obtain ⟨a2, c2, w10, r10, hrow10, hb10, hk10⟩ := TRow.push HU6.out.row HU6.out.below.size (by rw [HU6.out.row.len]; omega) ⟨2, t, .slice none 0 0⟩ (.op o) (tk_op ht) (.nil 0)
               rw [← HN.out] at r10 hrow10
               have HR10 : Hid (TU w w10 S a5 (.slice a2 (n + 1) c2) (l ++ [.op o]) (L ++ [⟨2, t, .slice none 0 0⟩])) := ⟨hk10 _ _ 53 (by decide) HU6.out.rd, hrow10, HU6.out.below.trans hb10⟩
               have q1 : w10.cell? ⟨w.heap.size, 1, none⟩ = some (.int .i64 a5) := cell_of HR10.out.rd 1
               have f1 := free_of HR10.out.rd 1
               clear ht hrow10 hb10 hk10
               simp only [])
            | (at_builtin; refine wpList_run_append _ rfl _ _ 23 23 rfl _ _ rfl rfl r10 ?_))
          have HTS : Hid (TS w (w10.setCell ⟨w.heap.size, 1, none⟩ (.int .i64 ((a5 : Int) + (t.size : Int)))) S (a5 + t.size) (.slice a2 (n + 1) c2) (l ++ [.op o]) (L ++ [⟨2, t, .slice none 0 0⟩])) := by
            have hts := HTZ.out
            refine ⟨HR10.out.rd.setI _ (by omega), by omega, HR10.out.row.keep fun g cur ty _ ht hc => (heap_other (cells_ne hc HR10.out.rd (by rcases ht with rfl | rfl <;> decide)) _ _).trans hc, HR10.out.below.setCell (Nat.le_refl _) _, by simp; omega, ?_⟩
            rw [HE.out, ← HSD.out, List.drop_drop, hts]
          go_roundw
          case measure => rw [mea_at HTS.out.rd, HMB.out]; have := HTZ.out; omega
          case rel => exact ⟨a2, n + 1, c2, rfl, _, _, _, by rw [List.length_append, ← HN.out]; rfl, HTS.out⟩
      · have hXE : X.toList.isEmpty = true := isE_of (by rw [hX.1, List.drop_of_length_le (by rw [dl]; omega)])
        have HE : Hid (tokC S.data.toList [] = .ok l) := by
          rw [Hid, HEQ.out]
          refine tokC_nil ?_
          rw [← HDR.out, List.drop_of_length_le (by rw [dl]; omega)]
        clear hX
        go_wp2_with (go_at_call 21; refine HR3.out.mono ?_; rintro e w6 ⟨rfl, h6⟩; have HU6 := Lib.hid (HU.out.under h6); clear h6; simp only [])
        exact HEND.out _ _ _ _ l L HN.out (by omega) HE.out HU6.out.row HU6.out.below
  · have HF : Hid (tokensF S.data.toList = .error (mayN S.data.toList)) := tokensF_bad hm
    obtain ⟨x, hx⟩ : ∃ x, mayN S.data.toList = x := ⟨_, rfl⟩
    rw [hx] at HRE HF hm
    have hxI : ((x : Int) == 0) = false := beq_eq_false_iff_ne.2 (by omega)
    have HM := Lib.hid hm
    clear hx hm
    go_enter Try.func13, Try.ntmps13
    go_wp2_with fail
    refine wp_scope_straight ?_
    go_wp2_with (go_at_call 19; refine HRE.out.mono ?_; rintro e w1 ⟨rfl, h1⟩; obtain rfl := h1.symm; simp only [])
    rw [← HQ.out, HF.out]
    exact ⟨rfl, HM.out, Below.refl _ _⟩
end Go.Proofs.Ytafbheplaheohaa

namespace Go.Proofs.Ytafbheplaheohaa
open Go.RowKit
set_option linter.unusedVariables false

theorem SameParts_any (l m : List Prt) (a1 : Option Addr) (c1 : Nat) (a2 : Option Addr) (c2 : Nat) (w : World) (F G : Nat → Prop) (hn : wsz m ≤ 100000) (h1 : Wd w F (.slice a1 l.length c1) l) (h2 : Wd w G (.slice a2 m.length c2) m) :
    Calls Try.prog 18 #[.slice a1 l.length c1, .slice a2 m.length c2] w (SPq w (sames l m)) := by
  have key : ∀ n, n ≤ 100000 → ∀ l m : List Prt, ∀ a1 c1 a2 c2 (w : World) (F G : Nat → Prop), wsz m = n → Wd w F (.slice a1 l.length c1) l → Wd w G (.slice a2 m.length c2) m → Calls Try.prog 18 #[.slice a1 l.length c1, .slice a2 m.length c2] w (SPq w (sames l m)) := by
    intro n
    induction n using Nat.strongRecOn with
    | _ n ih =>
      intro hn l m a1 c1 a2 c2 w F G h0 h1 h2
      exact SameParts_step n (fun l m a1 c1 a2 c2 w F G hl h1 h2 => ih _ hl (by omega) l m a1 c1 a2 c2 w F G rfl h1 h2) hn l m a1 c1 a2 c2 w F G h0 h1 h2
  exact key _ hn l m a1 c1 a2 c2 w F G rfl h1 h2
/-- Tokens to be read behind a value. -/
def Tl (w : World) (v : Value) (l : List Tok) : Prop := ∃ a c, v = .slice a l.length c ∧ ∀ i (h : i < l.length), ∃ b off cur tk F, a = some ⟨b, off, none⟩ ∧ w.heap[b]? = some (.cells cur 34 (0, 0)) ∧ (∀ q, q < 3 → cur[off + i * 3 + q]? = (Tk.cs tk)[q]?) ∧ tk.is l[i] ∧ Wd w F tk.wv (tokW l[i])
theorem Tl.under {w w' : World} {v : Value} {l : List Tok} (h : Tl w v l) (hb : Below w.heap.size w w') : Tl w' v l := by
  obtain ⟨a, c, h1, h2⟩ := h
  refine ⟨a, c, h1, fun i hi => ?_⟩
  obtain ⟨b, off, cur, tk, F, g1, g2, g3, g4, g5⟩ := h2 i hi
  exact ⟨b, off, cur, tk, F, g1, (hb.block b (Array.getElem?_eq_some_iff.1 g2).1).trans g2, g3, g4, g5.under hb⟩
theorem TRow.tl {w : World} {B : Nat} {v : Value} {l : List Tok} {L : List Tk} (h : TRow w B v l L) : Tl w v l := by
  have hlen := h.len
  rcases h.own.2 with ⟨rfl, h0⟩ | ⟨g, cap, cur, e, h2, h3, h4, h5, h6, h7⟩
  · have : l = [] := List.eq_nil_of_length_eq_zero (by omega)
    subst this
    exact ⟨none, 0, rfl, fun i hi => absurd hi (by simp)⟩
  · rw [hlen] at e
    refine ⟨_, cap, e, fun i hi => ⟨g, 0, cur, L[i]'(by omega), _, rfl, h3, fun q hq => ?_, h.is i (by omega) hi, h.word i (by omega) hi⟩⟩
    rw [Nat.zero_add, ← tcs_at L i q (by omega) hq, ← h7, List.getElem?_take, if_pos (by omega)]
    simp
theorem addo3 (b off k : Nat) : (⟨b, off, none⟩ : Addr).add (k * 3) = ⟨b, off + k * 3, none⟩ := addn b off _
theorem Tl.cells {w : World} {a : Option Addr} {n c : Nat} {l : List Tok} (h : Tl w (.slice a n c) l) {i : Nat} (hi : i < l.length) :
    n = l.length ∧ ∃ b off k t wa wc F, a = some ⟨b, off, none⟩ ∧ b < w.heap.size ∧ w.cell? ⟨b, off + i * 3, none⟩ = some (.int .i64 k) ∧ w.cell? ⟨b, off + i * 3 + 1, none⟩ = some (.string t) ∧ w.cell? ⟨b, off + i * 3 + 2, none⟩ = some (.slice wa (tokW l[i]).length wc) ∧
      k = (tokK l[i] : Int) ∧ t.data.toList = tokT l[i] ∧ Wd w F (.slice wa (tokW l[i]).length wc) (tokW l[i]) := by
  obtain ⟨a', c', e, h2⟩ := h
  obtain ⟨b, off, cur, ⟨k, t, wv⟩, F, g1, g2, g3, ⟨g4, g5⟩, g6⟩ := h2 i hi
  injection e with e1 e2 e3
  obtain ⟨wa, wc, hf⟩ := g6.form
  simp only at g4 g5 g6 hf
  subst hf
  have hlt := (Array.getElem?_eq_some_iff.1 g2).1
  have hcell : ∀ j u, j < 3 → (Tk.cs ⟨k, t, .slice wa (tokW l[i]).length wc⟩)[j]? = some u → w.cell? ⟨b, off + i * 3 + j, none⟩ = some u := fun j u hj hu => by
    rw [Lib.cell_of_heap g2]
    exact (g3 j hj).trans hu
  exact ⟨e2, b, off, k, t, wa, wc, F, e1.trans g1, hlt, hcell 0 _ (by decide) rfl, hcell 1 _ (by decide) rfl, hcell 2 _ (by decide) rfl, g4, g5, g6⟩
set_option maxHeartbeats 400000 in
theorem num_any (x : Int) (w : World) : Calls Try.prog 15 #[.int .i64 x] w fun e w' => e = .returned (.int .i64 x) ∧ w' = w := by
  go_enter Try.func15, Try.ntmps15
  go_wp2_with fail
  go_ret
  exact ⟨rfl, rfl⟩
set_option maxRecDepth 100000 in
set_option maxHeartbeats 8000000 in
theorem SameTokens_any (u v : Value) (l : List Tok) (w : World) (hl : l.length ≤ 100000) (hz : ∀ i (h : i < l.length), wsz (tokW l[i]) ≤ 100000) (h1 : Tl w u l) (h2 : Tl w v l) :
    Calls Try.prog 16 #[u, v] w fun e w' => e = .returned (.bool true) ∧ Below w.heap.size w w' := by
  obtain ⟨a1, c1, hu, _⟩ := id h1
  obtain ⟨a2, c2, hv, _⟩ := id h2
  subst hu
  subst hv
  have H1 := Lib.hid h1
  have H2 := Lib.hid h2
  have HZ := Lib.hid hz
  obtain ⟨N, hN⟩ : ∃ N, l.length = N := ⟨_, rfl⟩
  have hNI : (N : Int) ≤ 100000 := by omega
  have HN := Lib.hid hN
  rw [hN] at H1 H2 ⊢
  clear h1 h2 hN hl hz
  go_enter Try.func16, Try.ntmps16
  go_wp2_with fail
  go_loopw [5] (fun i wx => ∃ k : Nat, k ≤ N ∧ i = .int .i64 k ∧ Hid (Below w.heap.size w wx)) (fun i _ => N - (intOf i).toNat)
  case atStart => exact ⟨0, by omega, rfl, Below.refl _ _⟩
  case round =>
    obtain ⟨k, hk, rfl, HD⟩ := hrel
    by_cases hlt : k < N
    · have hltI : (k : Int) < (N : Int) := by omega
      have hltd : decide ((k : Int) < (N : Int)) = true := decide_eq_true hltI
      have hk0 : (0 : Int) ≤ (k : Int) := by omega
      have hkl : k < l.length := by rw [HN.out]; exact hlt
      obtain ⟨-, b, off, kk, t, wa, wc, F, e1, hb, q0, q1, q2, i1, i2, hw1⟩ := (H1.out.under HD.out).cells hkl
      obtain ⟨-, b', off', kk', t', wa', wc', F', e1', hb', q0', q1', q2', j1, j2, hw2⟩ := (H2.out.under HD.out).cells hkl
      obtain rfl : kk = kk' := i1.trans j1.symm
      obtain rfl : t = t' := ba_ext (i2.trans j2.symm)
      obtain ⟨m, hm⟩ : ∃ m, tokW l[k] = m := ⟨_, rfl⟩
      have hzm := HZ.out k hkl
      rw [hm] at q2 q2' hw1 hw2 hzm
      have HSP : Hid (∀ w', Below wr.heap.size wr w' → Calls Try.prog 18 #[.slice wa m.length wc, .slice wa' m.length wc'] w' fun e w'' => e = .returned (.bool true) ∧ Below wr.heap.size wr w'') := fun w' hw => (SameParts_any m m wa wc wa' wc' w' _ _ hzm (hw1.under hw) (hw2.under hw)).mono (by
        rintro e w'' ⟨rfl, h⟩
        rw [(sames_eq m m).2 rfl]
        exact ⟨rfl, hw.trans (h.mono hw.size)⟩)
      have HCK : Hid (∀ w', Below wr.heap.size wr w' → w'.cell? ⟨b, off + k * 3, none⟩ = some (.int .i64 kk) ∧ w'.cell? ⟨b, off + k * 3 + 1, none⟩ = some (.string t) ∧ w'.cell? ⟨b, off + k * 3 + 2, none⟩ = some (.slice wa m.length wc) ∧
        w'.cell? ⟨b', off' + k * 3, none⟩ = some (.int .i64 kk) ∧ w'.cell? ⟨b', off' + k * 3 + 1, none⟩ = some (.string t) ∧ w'.cell? ⟨b', off' + k * 3 + 2, none⟩ = some (.slice wa' m.length wc')) := fun w' hw => by
        have key : ∀ g o u, g < wr.heap.size → wr.cell? ⟨g, o, none⟩ = some u → w'.cell? ⟨g, o, none⟩ = some u := fun g o u hg hu => by
          unfold World.cell? at hu ⊢; rw [hw.block g hg]; exact hu
        exact ⟨key _ _ _ hb q0, key _ _ _ hb q1, key _ _ _ hb q2, key _ _ _ hb' q0', key _ _ _ hb' q1', key _ _ _ hb' q2'⟩
      obtain ⟨mn, hmn⟩ : ∃ mn, m.length = mn := ⟨_, rfl⟩
      rw [hmn] at q2 q2' HSP HCK
      have HB0 : Hid (Below wr.heap.size wr wr) := Below.refl _ _
      clear hm i1 i2 j1 j2 hw1 hw2 hkl hzm hmn
      subst e1
      subst e1'
      have ad := addo3 b off k
      have ad' := addo3 b' off' k
      go_wp2_with fail
      go_region_held3 (fun w' => w'.cell? ⟨b, off + k * 3, none⟩ = some (.int .i64 kk) ∧ w'.cell? ⟨b, off + k * 3 + 1, none⟩ = some (.string t) ∧ w'.cell? ⟨b, off + k * 3 + 2, none⟩ = some (.slice wa mn wc) ∧ w'.cell? ⟨b', off' + k * 3, none⟩ = some (.int .i64 kk) ∧ w'.cell? ⟨b', off' + k * 3 + 1, none⟩ = some (.string t) ∧ w'.cell? ⟨b', off' + k * 3 + 2, none⟩ = some (.slice wa' mn wc')) (first | exact HCK.out _ hbz | exact HCK.out _ (Below.refl _ _).drew | exact HCK.out _ hbz.drew) (first
        | (go_at_call 18; refine (HSP.out _ (Below.refl _ _).drew).mono ?_; rintro e wz ⟨rfl, hbz⟩))
      all_goals
        have HB1 := Lib.hid (HD.out.trans (hbz.mono HD.out.size))
        clear hbz
        go_wp2_with fail

        go_roundw
        case measure => simp [intOf]; omega
        case rel => exact ⟨k + 1, by omega, by go_num, by first | exact HB1.out | exact HB1.out.drew⟩
    · obtain rfl : k = N := by omega
      have hltd : decide ((k : Int) < (k : Int)) = false := decide_eq_false (by omega)
      go_wp2_with fail
      go_ret
      exact ⟨rfl, HD.out⟩
end Go.Proofs.Ytafbheplaheohaa

namespace Go.Proofs.Ytafbheplaheohaa
open Go.RowKit
set_option linter.unusedVariables false

/-- What lex.Tokens answers, where the answer is known. -/
theorem Tokens_ok (S : ByteArray) (w : World) (hs : S.size ≤ 9000000000000000000) {l : List Tok} (h : tokensF S.data.toList = .ok l) :
    Calls Try.prog 13 #[.string S] w fun e w' => ∃ a c, e = .returned (.tuple #[.slice a l.length c, .int .i64 0]) ∧ Tl w' (.slice a l.length c) l ∧ Below w.heap.size w w' := by
  have := Tokens_any S w hs
  rw [h] at this
  refine this.mono ?_
  rintro e w' ⟨a, c, L, rfl, h1, h2, _⟩
  exact ⟨a, c, rfl, h1.tl, h2⟩
theorem Tokens_err (S : ByteArray) (w : World) (hs : S.size ≤ 9000000000000000000) {x : Nat} (h : tokensF S.data.toList = .error x) :
    Calls Try.prog 13 #[.string S] w fun e w' => e = .returned (.tuple #[.slice none 0 0, .int .i64 x]) ∧ Below w.heap.size w w' := by
  have := Tokens_any S w hs
  rw [h] at this
  refine this.mono ?_
  rintro e w' ⟨rfl, _, h2⟩
  exact ⟨rfl, h2⟩
theorem Word_ok (S : ByteArray) (w : World) (hs : S.size ≤ 9000000000000000000) {l : List Prt} (h : wordsF S.data.toList = .ok l) :
    Calls Try.prog 17 #[.string S] w fun e w' => ∃ a c, e = .returned (.tuple #[.slice a l.length c, .int .i64 0]) ∧ Wd w' (fun k => w.heap.size ≤ k) (.slice a l.length c) l ∧ Below w.heap.size w w' := by
  have := Word_any S w hs
  rw [h] at this
  refine this.mono ?_
  rintro e w' ⟨v, rfl, h1, h2⟩
  obtain ⟨a, c, rfl⟩ := h1.form
  exact ⟨a, c, rfl, h1, h2⟩
theorem Word_err (S : ByteArray) (w : World) (hs : S.size ≤ 9000000000000000000) {x : Nat} (h : wordsF S.data.toList = .error x) :
    Calls Try.prog 17 #[.string S] w fun e w' => e = .returned (.tuple #[.slice none 0 0, .int .i64 x]) ∧ Below w.heap.size w w' := by
  have := Word_any S w hs
  rw [h] at this
  refine this.mono ?_
  rintro e w' ⟨rfl, _, h2⟩
  exact ⟨rfl, h2⟩
/-- One token alone, a word. -/
theorem Tokens_word (S : ByteArray) (w : World) (hs : S.size ≤ 9000000000000000000) {m : List Prt} (h : tokensF S.data.toList = .ok [.word m]) :
    Calls Try.prog 13 #[.string S] w fun e w' => ∃ b off c wa wc F, e = .returned (.tuple #[.slice (some ⟨b, off, none⟩) 1 c, .int .i64 0]) ∧ b < w'.heap.size ∧ w'.cell? ⟨b, off + 2, none⟩ = some (.slice wa m.length wc) ∧ Wd w' F (.slice wa m.length wc) m ∧ Below w.heap.size w w' := by
  refine (Tokens_ok S w hs h).mono ?_
  rintro e w' ⟨a, c, rfl, h1, h2⟩
  obtain ⟨-, b, off, kk, t, wa, wc, F, rfl, hb, q0, q1, q2, -, -, hw⟩ := h1.cells (i := 0) (by simp)
  simp only [List.getElem_cons_zero, tokW, Nat.zero_mul, Nat.add_zero] at q2 hw
  exact ⟨b, off, c, wa, wc, F, rfl, hb, q2, hw, h2⟩
theorem cell_under {w w' : World} (hw : Below w.heap.size w w') {b o : Nat} {u : Value} (hb : b < w.heap.size) (h : w.cell? ⟨b, o, none⟩ = some u) : w'.cell? ⟨b, o, none⟩ = some u := by
  unfold World.cell? at h ⊢; rw [hw.block b hb]; exact h
/-- The comparison of a word with one that was just built. -/
theorem Same_eq {w : World} {m : List Prt} {a1 a2 : Option Addr} {c1 c2 n1 n2 : Nat} {F G : Nat → Prop} (hn : wsz m ≤ 100000) (h1 : Wd w F (.slice a1 n1 c1) m) (h2 : Wd w G (.slice a2 n2 c2) m) :
    Calls Try.prog 18 #[.slice a1 n1 c1, .slice a2 n2 c2] w fun e w' => e = .returned (.bool true) ∧ Below w.heap.size w w' := by
  have e1 : n1 = m.length := by obtain ⟨a, c, h⟩ := h1.form; injection h
  have e2 : n2 = m.length := by obtain ⟨a, c, h⟩ := h2.form; injection h
  subst e1
  subst e2
  refine (SameParts_any m m a1 c1 a2 c2 w F G hn h1 h2).mono ?_
  rintro e w' ⟨rfl, h⟩
  rw [(sames_eq m m).2 rfl]
  exact ⟨rfl, h⟩
theorem wsz_two (k l : Nat) (t u : Bz) : wsz [txt k t, txt l u] = 2 := by simp [wsz, psz, txt]
theorem wsz_txt (k : Nat) (t : Bz) : wsz [txt k t] = 1 := by simp [wsz, psz, txt]
/-- A word of one text against one that is just built. -/
theorem same_txt {w : World} {F : Nat → Prop} {wa : Option Addr} {wc : Nat} (k : Nat) (t : ByteArray) (h : Wd w F (.slice wa 1 wc) [txt k t.data.toList]) :
    Calls Try.prog 18 #[.slice wa 1 wc, .slice (some ⟨w.heap.size, 0, none⟩) 1 1] (w.alloc (.cells #[.int .i64 k, .string t, .string ⟨#[]⟩, .string ⟨#[]⟩, .slice none 0 0, .bool false] 39)) fun e w' => e = .returned (.bool true) ∧ Below w.heap.size w w' := by
  have hbe := (Below.refl w.heap.size w).alloc (Nat.le_refl _) (.cells #[.int .i64 k, .string t, .string ⟨#[]⟩, .string ⟨#[]⟩, .slice none 0 0, .bool false] 39)
  refine (Same_eq (m := [txt k t.data.toList]) (G := fun _ => True) (by rw [wsz_txt]; decide) (h.under hbe) (Wd.one (pt := ⟨k, t, ⟨#[]⟩, ⟨#[]⟩, .slice none 0 0, false⟩) trivial (heap_alloc_new w _) ⟨rfl, rfl, rfl, rfl, rfl⟩ (.nil 0))).mono ?_
  rintro e w' ⟨rfl, h⟩
  exact ⟨rfl, hbe.trans (h.mono hbe.size)⟩
set_option maxRecDepth 100000 in
set_option maxHeartbeats 8000000 in
theorem alive_any (w : World) : Calls Try.prog 12 #[] w fun e w' => e = .returned (.bool true) ∧ Below w.heap.size w w' := by
  obtain ⟨Q, hQ⟩ : ∃ Q : Ending → World → Prop, (fun e w' => e = .returned (.bool true) ∧ Below w.heap.size w w') = Q := ⟨_, rfl⟩
  rw [hQ]
  have HQ := Lib.hid hQ
  have HT := Lib.hid (Tokens_ok ⟨#[97, 32, 34, 98, 32, 99, 34]⟩ w (by decide) alive_val)
  clear hQ
  simp only [List.length_cons, List.length_nil, Nat.zero_add, Nat.reduceAdd] at HT
  go_enter Try.func12, Try.ntmps12
  go_wp2_with (first
    | (go_at_call 15; refine (num_any _ _).mono ?_; rintro e w7 ⟨rfl, h7⟩; obtain rfl := h7.symm; simp only [])
    | (go_at_call 13
       refine HT.out.mono ?_
       rintro e w5 ⟨a, c, rfl, h1, h2⟩
       have HB := Lib.hid h2
       obtain ⟨-, b, off, kk, t, wa, wc, F, rfl, hb, q0, q1, q2, -, -, hw⟩ := h1.cells (i := 1) (by decide)
       simp only [List.getElem_cons_succ, List.getElem_cons_zero, tokW, List.length_cons, List.length_nil, Nat.zero_add, Nat.reduceAdd, Nat.one_mul] at q0 q1 q2 hw
       obtain ⟨b', off', k', t', nm', o', wa', wc', q', rfl, hb', p0, p1, p2, p3, p4, p5, i1, i2, -, -, -, -⟩ := hw.cells (i := 0) (by decide)
       simp only [List.getElem_cons_zero, Nat.zero_mul, Nat.add_zero] at p0 p1 p2 p3 p4 p5 i1 i2
       have ad := addn b off 3
       have ad0 := addn b' off' 0
       rw [Nat.add_zero] at ad0
       have i2' : (t'.toList == [98, 32, 99]) = true := by rw [Lib.toList_data, i2]; rfl
       have i1' : k' = 2 := i1
       subst i1'
       clear h1 h2 hw i1 i2
       simp only []))
  rw [← HQ.out]
  exact ⟨rfl, HB.out⟩
end Go.Proofs.Ytafbheplaheohaa

namespace Go.Proofs.Ytafbheplaheohaa
open Go.RowKit
set_option linter.unusedVariables false

/-! The document's own reader: its small functions. -/
/-- A reader of S at block rb, that has come to a; x: its first error. -/
def Rr (w : World) (rb : Nat) (S : ByteArray) (a x : Nat) : Prop := w.heap[rb]? = some (.cells [.string S, .int .i64 a, .int .i64 x].toArray 60 (0, 0))
theorem Rr.under {w w' : World} {rb a x : Nat} {S : ByteArray} (h : Rr w rb S a x) (hb : Below w.heap.size w w') : Rr w' rb S a x := (hb.block rb (blk_lt h)).trans h
theorem Rr.drewN {w : World} {rb a x : Nat} {S : ByteArray} (h : Rr w rb S a x) (n : Nat) : Rr (w.drewN n) rb S a x := h
theorem Rr.setI {w : World} {rb a x : Nat} {S : ByteArray} (h : Rr w rb S a x) {ai : Int} (a' : Nat) (e : ai = (a' : Int)) : Rr (w.setCell ⟨rb, 1, none⟩ (.int .i64 ai)) rb S a' x := by subst e; exact set_of h 1 _
theorem Rr.setX {w : World} {rb a x : Nat} {S : ByteArray} (h : Rr w rb S a x) {xi : Int} (x' : Nat) (e : xi = (x' : Int)) : Rr (w.setCell ⟨rb, 2, none⟩ (.int .i64 xi)) rb S a x' := by subst e; exact set_of h 2 _
def seeF (S : ByteArray) (k : Nat) : UInt8 := (S.data.toList[k]?).getD 0
theorem seeF_at {S : ByteArray} {k : Nat} {c : UInt8} (h : S.data.toList[k]? = some c) : seeF S k = c := by unfold seeF; rw [h]; rfl
theorem seeF_off {S : ByteArray} {k : Nat} (h : S.size ≤ k) : seeF S k = 0 := by unfold seeF; rw [List.getElem?_eq_none (by rw [dl]; exact h)]; rfl
set_option maxRecDepth 100000 in
set_option maxHeartbeats 4000000 in
theorem over_any {w : World} {rb a x : Nat} {S : ByteArray} (hr : Rr w rb S a x) (b : Bool) (hb : decide (S.size ≤ a) = b) :
    Calls Try.prog 25 #[.pointer (some ⟨rb, 0, none⟩)] w fun e w' => e = .returned (.bool b) ∧ ∃ n, w' = w.drewN n := by
  have q0 : w.cell? ⟨rb, 0, none⟩ = some (.string S) := cell_of hr 0
  have q1 : w.cell? ⟨rb, 1, none⟩ = some (.int .i64 a) := cell_of hr 1
  clear hr
  go_enter Try.func25, Try.ntmps25
  go_wp2_with fail
  go_quiet (fail)
  go_wp2_with fail
  go_ret
  exact ⟨by rw [← hb]; rfl, nq, rfl⟩
set_option maxRecDepth 100000 in
set_option maxHeartbeats 4000000 in
theorem see_any {w : World} {rb a x : Nat} {S : ByteArray} (hr : Rr w rb S a x) (ki : Int) (k : Nat) (hki : ki = (k : Int)) (hs : a + k ≤ 1000000) (hsz : S.size ≤ 1000000) :
    Calls Try.prog 26 #[.pointer (some ⟨rb, 0, none⟩), .int .i64 ki] w fun e w' => e = .returned (.int .u8 (seeF S (a + k)).toNat) ∧ ∃ n, w' = w.drewN n := by
  subst hki
  have q0 : w.cell? ⟨rb, 0, none⟩ = some (.string S) := cell_of hr 0
  have q1 : w.cell? ⟨rb, 1, none⟩ = some (.int .i64 a) := cell_of hr 1
  obtain ⟨m, hm⟩ : ∃ m, a + k = m := ⟨_, rfl⟩
  have hw : IntKind.i64.wrap ((a : Int) + (k : Int)) = (m : Int) := by rw [IntWalk.i64_in _ (by omega)]; omega
  rw [hm]
  clear hr
  by_cases h : S.size ≤ m
  · have hI : (S.size : Int) ≤ (m : Int) := by omega
    have hd : decide ((S.size : Int) ≤ (m : Int)) = true := decide_eq_true hI
    have HE : Hid ((seeF S m).toNat = 0) := by rw [Hid, seeF_off h]; rfl
    clear hm
    go_enter Try.func26, Try.ntmps26
    go_wp2_with fail
    go_quiet (fail)
    go_wp2_with fail
    go_ret
    exact ⟨by rw [HE.out]; rfl, nq, rfl⟩
  · have hlt : m < S.size := by omega
    have hI : ¬ (S.size : Int) ≤ (m : Int) := by omega
    have hd : decide ((S.size : Int) ≤ (m : Int)) = false := decide_eq_false hI
    have hltI : (m : Int) < (S.size : Int) := by omega
    have h0 : (0 : Int) ≤ (m : Int) := by omega
    have HE : Hid (seeF S m = S[m]'hlt) := by rw [Hid]; exact seeF_at (data_get S m hlt)
    obtain ⟨c, hc⟩ : ∃ c, S[m]'hlt = c := ⟨_, rfl⟩
    rw [hc] at HE
    clear hm
    go_enter Try.func26, Try.ntmps26
    go_wp2_with fail
    go_quiet (fail)
    obtain ⟨w5, hw5⟩ : ∃ wv, World.drewN w nq = wv := ⟨_, rfl⟩
    have HW5 := Lib.hid hw5
    have q0 : w5.cell? ⟨rb, 0, none⟩ = some (.string S) := by rw [← hw5]; exact q0
    have q1 : w5.cell? ⟨rb, 1, none⟩ = some (.int .i64 a) := by rw [← hw5]; exact q1
    rw [hw5]
    clear hw5
    go_wp2_with fail
    go_quiet (fail)
    go_wp2_with fail
    go_ret
    exact ⟨by rw [HE.out]; rfl, _, by rw [← HW5.out, World.drewN_drewN]⟩
/-- The first error counts. -/
def orE (x e : Nat) : Nat := if x = 0 then e else x
/-- What failing leaves. -/
def FailP (w : World) (rb : Nat) (S : ByteArray) (a x : Nat) (e : Ending) (w' : World) : Prop := e = .returned (.tuple #[]) ∧ Rr w' rb S a x ∧ Only (fun k => k = rb) w w'
set_option maxRecDepth 100000 in
set_option maxHeartbeats 4000000 in
theorem fail_any {w : World} {rb a x : Nat} {S : ByteArray} (hr : Rr w rb S a x) (ei : Int) (e : Nat) (hei : ei = (e : Int)) :
    Calls Try.prog 39 #[.pointer (some ⟨rb, 0, none⟩), .int .i64 ei] w (FailP w rb S a (orE x e)) := by
  obtain ⟨Q, hQ⟩ : ∃ Q, FailP w rb S a (orE x e) = Q := ⟨_, rfl⟩
  rw [hQ]
  have HQ := Lib.hid hQ
  have q2 : w.cell? ⟨rb, 2, none⟩ = some (.int .i64 x) := cell_of hr 2
  have f2 := free_of hr 2
  have HR := Lib.hid hr
  have HEI := Lib.hid hei
  clear hQ hr hei
  by_cases hx : x = 0
  · subst hx
    go_enter Try.func39, Try.ntmps39
    go_wp2_with fail
    go_end0
    rw [← HQ.out]
    exact ⟨rfl, HR.out.setX _ HEI.out, Only.set (S := fun k => k = rb) (Only.refl _ w) (.inl rfl) _ _⟩
  · have hxI : ((x : Int) == 0) = false := beq_eq_false_iff_ne.2 (by omega)
    have HX := Lib.hid hx
    clear hx
    go_enter Try.func39, Try.ntmps39
    go_wp2_with fail
    go_end0
    rw [← HQ.out, show orE x e = x from if_neg HX.out]
    exact ⟨rfl, HR.out, Only.refl _ _⟩
theorem RDigit_any (c : UInt8) (w : World) : Calls Try.prog 53 #[.int .u8 c.toNat] w fun e w' => e = .returned (.bool (isDigit c)) ∧ w' = w := by
  have h1 := ble 48 c
  have h2 := ble c 57
  rw [show ((48 : UInt8).toNat : Int) = 48 from rfl] at h1
  rw [show ((57 : UInt8).toNat : Int) = 57 from rfl] at h2
  have hd : isDigit c = (decide (48 ≤ c) && decide (c ≤ 57)) := by unfold isDigit; simp
  rw [hd]
  obtain ⟨b1, e1⟩ : ∃ b, decide (48 ≤ c) = b := ⟨_, rfl⟩
  obtain ⟨b2, e2⟩ : ∃ b, decide (c ≤ 57) = b := ⟨_, rfl⟩
  rw [e1] at h1 ⊢
  rw [e2] at h2 ⊢
  clear e1 e2 hd
  cases b1 <;> cases b2
  all_goals
    go_enter Try.func53, Try.ntmps53
    go_wp2_with fail
    go_ret
    exact ⟨rfl, rfl⟩
def isStart (c : UInt8) : Bool := isLetter c || c == 95
theorem start_all : ∀ n : Fin 256, isStart (UInt8.ofNat n.val) = ((decide ((97 : Int) ≤ (n.val : Int)) && decide ((n.val : Int) ≤ 122)) || (decide ((65 : Int) ≤ (n.val : Int)) && decide ((n.val : Int) ≤ 90)) || ((n.val : Int) == 95)) := by decide +kernel
theorem start_eq (c : UInt8) : isStart c = ((decide ((97 : Int) ≤ (c.toNat : Int)) && decide ((c.toNat : Int) ≤ 122)) || (decide ((65 : Int) ≤ (c.toNat : Int)) && decide ((c.toNat : Int) ≤ 90)) || ((c.toNat : Int) == 95)) := by
  have := start_all ⟨c.toNat, c.toNat_lt⟩
  simpa using this
theorem RLetter_any (c : UInt8) (w : World) : Calls Try.prog 64 #[.int .u8 c.toNat] w fun e w' => e = .returned (.bool (isStart c)) ∧ w' = w := by
  rw [start_eq]
  obtain ⟨m, hm⟩ : ∃ m : Int, (c.toNat : Int) = m := ⟨_, rfl⟩
  rw [hm]
  obtain ⟨b1, h1⟩ : ∃ b, decide ((97 : Int) ≤ m) = b := ⟨_, rfl⟩
  obtain ⟨b2, h2⟩ : ∃ b, decide (m ≤ 122) = b := ⟨_, rfl⟩
  obtain ⟨b3, h3⟩ : ∃ b, decide ((65 : Int) ≤ m) = b := ⟨_, rfl⟩
  obtain ⟨b4, h4⟩ : ∃ b, decide (m ≤ 90) = b := ⟨_, rfl⟩
  obtain ⟨b5, h5⟩ : ∃ b, (m == 95) = b := ⟨_, rfl⟩
  rw [h1, h2, h3, h4, h5]
  clear hm
  cases b1 <;> cases b2 <;> cases b3 <;> cases b4 <;> cases b5
  all_goals
    go_enter Try.func64, Try.ntmps64
    go_wp2_with fail
    go_ret
    exact ⟨rfl, rfl⟩
end Go.Proofs.Ytafbheplaheohaa
