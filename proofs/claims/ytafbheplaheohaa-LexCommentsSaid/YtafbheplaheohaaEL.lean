import Derived.Test.YtafbheplaheohaaEJ
namespace Go.Proofs.Ytafbheplaheohaa
open Go.RowKit
set_option linter.unusedVariables false

set_option maxRecDepth 100000 in
set_option maxHeartbeats 16000000 in
theorem RBrace_any {w0 w : World} {rb B : Nat} {S : ByteArray} {a : Nat} {va : Option Addr} {n c : Nat} {l : List Prt} {L : List Pt} {p : PS} {Z : Nat} (q : Bool) (d : Nat) (hd : d ≤ 40) (h : RIn w0 w rb B S a (.slice va n c) l L p Z) (hZ : Z ≤ 60000) (hS : S.size ≤ 16384) (ih : ∀ m, m ≤ S.size - a → RWP m) :
    Calls Try.prog 54 #[.pointer (some ⟨rb, 0, none⟩), .slice va n c, .int .i64 d, .bool q] w (RStep w0 rb B S d Z (braceR q d p (S.data.toList.drop a))) := by
  obtain ⟨Q, hQ⟩ : ∃ Q, RStep w0 rb B S d Z (braceR q d p (S.data.toList.drop a)) = Q := ⟨_, rfl⟩
  rw [hQ]
  have HQ := Lib.hid hQ
  have H0 := Lib.hid h
  have hle := h.le
  have hszz := h.sz
  obtain ⟨s, hs⟩ : ∃ s, S.data.toList.drop a = s := ⟨_, rfl⟩
  have hsl : s.length = S.size - a := by rw [← hs, List.length_drop, dl]
  have HSD := Lib.hid hs
  obtain ⟨g, hg⟩ : ∃ g, w.heap.size = g := ⟨_, rfl⟩
  have hB0 : BR w (w.alloc (.cells #[.int .i64 3, .string ⟨#[]⟩, .string ⟨#[]⟩, .string ⟨#[]⟩, .slice none 0 0, .bool q] 39)) rb S a 0 g ⟨#[]⟩ ⟨#[]⟩ (.slice none 0 0) q :=
    ⟨h.rs.rr.under ((Below.refl _ _).alloc (Nat.le_refl _) _), Only.of_below ((Below.refl _ _).alloc (Nat.le_refl _) _), by rw [← hg]; exact heap_alloc_new w _, by omega⟩
  obtain ⟨wA, hwA⟩ : ∃ wA, w.alloc (.cells #[.int .i64 3, .string ⟨#[]⟩, .string ⟨#[]⟩, .string ⟨#[]⟩, .slice none 0 0, .bool q] 39) = wA := ⟨_, rfl⟩
  rw [hwA] at hB0
  have HB0 := Lib.hid hB0
  have HWA := Lib.hid hwA
  have HG := Lib.hid hg
  -- how it ends
  have HERR : Hid (∀ w5 m x N O wv y, BR w w5 rb S m x g N O wv q → m ≤ EAt d → y ≠ 0 → orE x y = y ∨ orE x y = x → braceF (wordC q (d + 1)) q d s = .error (orE x y) → orE x y ≠ 0 → Calls Try.prog 39 #[.pointer (some ⟨rb, 0, none⟩), .int .i64 ((y : Nat) : Int)] w5 fun e w' => e = .returned (.tuple #[]) ∧ Q (.returned (.slice va n c)) w') := fun w5 m x N O wv y h5 hm hy _ hf hx => (fail_any h5.rr y y rfl).mono (by
    rintro e w' ⟨rfl, h1, h2⟩
    refine ⟨rfl, ?_⟩
    rw [← HQ.out, HSD.out]
    unfold braceR
    rw [hf]
    have h6 := h5.turn h1 h2
    exact RS.failed H0.out.ok (H0.out.rs.rb h6.rr h6.only) hx hm (by omega))
  have HDONE : Hid (∀ w9 a9 n9 c9 L9 m N O wl r, RS w0 w9 rb B S m 0 (.slice a9 n9 c9) (l ++ [.mk 3 [] N O wl q]) L9 → m ≤ S.size → S.data.toList.drop m = r → a < m → braceF (wordC q (d + 1)) q d s = .ok (.mk 3 [] N O wl q, r) → Q (.returned (.slice a9 n9 c9)) w9) := fun w9 a9 n9 c9 L9 m N O wl r h9 hm hr ham hf => by
    rw [← HQ.out, HSD.out]
    unfold braceR
    rw [hf]
    refine RS.done H0.out.ok H0.out.eqv h9 (by show 3 ≤ 3; omega) hm hr ?_
    show SZ l + 1 + ([] : Bz).length + _ ≤ Z
    simp; omega
  have HDERR : Hid (∀ w9 a9 n9 c9 L9 m x N O wl, RS w0 w9 rb B S m x (.slice a9 n9 c9) (l ++ [.mk 3 [] N O wl q]) L9 → m ≤ EAt d → x ≠ 0 → braceF (wordC q (d + 1)) q d s = .error x → Q (.returned (.slice a9 n9 c9)) w9) := fun w9 a9 n9 c9 L9 m x N O wl h9 hm hx hf => by
    rw [← HQ.out, HSD.out]
    unfold braceR
    rw [hf]
    refine RS.failed (fun y hy => ?_) h9 hx hm (by rw [SZ_app]; show SZ l + 1 + 0 ≤ _; omega)
    rcases List.mem_append.1 hy with hy | hy
    · exact H0.out.ok y hy
    · simp at hy; rw [hy]; exact rawok_kind (by show 3 ≤ 3; omega)
  obtain ⟨c0, hc0⟩ : ∃ c0, seeF S a = c0 := ⟨_, rfl⟩
  have hE : S.size + 100 ≤ EAt d := by unfold EAt; omega
  have haw : IntKind.i64.wrap ((a : Int) + 1) = (a : Int) + 1 := IntWalk.i64_in _ (by omega)
  have haw2 : IntKind.i64.wrap ((a : Int) + 1 - 1) = (a : Int) := (IntWalk.i64_in ((a : Int) + 1 - 1) (by omega)).trans (by omega)
  have h35 := byte_eq c0 35
  rw [show ((35 : UInt8).toNat : Int) = 35 from rfl] at h35
  clear hQ h hB0 hwA hg
  have HE2 : Hid (∀ w5 m N O wv, BR w w5 rb S m 0 g N O wv q → m ≤ EAt d → braceF (wordC q (d + 1)) q d s = .error 2 → Calls Try.prog 39 #[.pointer (some ⟨rb, 0, none⟩), .int .i64 2] w5 fun e w' => e = .returned (.tuple #[]) ∧ Q (.returned (.slice va n c)) w') := fun w5 m N O wv h1 h2 h3 => HERR.out w5 m 0 N O wv 2 h1 h2 (by decide) (.inl rfl) h3 (by decide)
  have HE3 : Hid (∀ w5 m N O wv, BR w w5 rb S m 0 g N O wv q → m ≤ EAt d → braceF (wordC q (d + 1)) q d s = .error 3 → Calls Try.prog 39 #[.pointer (some ⟨rb, 0, none⟩), .int .i64 3] w5 fun e w' => e = .returned (.tuple #[]) ∧ Q (.returned (.slice va n c)) w') := fun w5 m N O wv h1 h2 h3 => HERR.out w5 m 0 N O wv 3 h1 h2 (by decide) (.inl rfl) h3 (by decide)
  have HEX : Hid (∀ w5 m x N O wv, BR w w5 rb S m x g N O wv q → m ≤ EAt d → x ≠ 0 → braceF (wordC q (d + 1)) q d s = .error x → Calls Try.prog 39 #[.pointer (some ⟨rb, 0, none⟩), .int .i64 2] w5 fun e w' => e = .returned (.tuple #[]) ∧ Q (.returned (.slice va n c)) w') := fun w5 m x N O wv h1 h2 hx h3 => by
    have e : orE x 2 = x := if_neg hx
    exact HERR.out w5 m x N O wv 2 h1 h2 (by decide) (.inr e) (by rw [e]; exact h3) (by rw [e]; exact hx)
  by_cases e35 : c0 = 35
  · have z35 : ((c0.toNat : Int) == 35) = true := by rw [h35, e35]; rfl
    obtain ⟨c1, hc1⟩ : ∃ c1, seeF S (a + 1) = c1 := ⟨_, rfl⟩
    have h125 := byte_eq c1 125
    rw [show ((125 : UInt8).toNat : Int) = 125 from rfl] at h125
    have hlta : a < S.size := by
      by_cases h : a < S.size
      · exact h
      · rw [seeF_off (by omega)] at hc0
        rw [← hc0] at e35; exact absurd e35 (by decide)
    have hsr : s = 35 :: S.data.toList.drop (a + 1) := by
      have hdr := at_drop (data_get S a hlta)
      rw [← seeF_head hdr, hc0, e35] at hdr
      rw [← hs, hdr]
    have hhd : (S.data.toList.drop (a + 1)).head? = some 125 ↔ c1 = 125 := by
      cases hd2 : S.data.toList.drop (a + 1) with
      | nil =>
        have : S.size ≤ a + 1 := by have := congrArg List.length hd2; rw [List.length_drop, dl] at this; simp at this; omega
        rw [seeF_off this] at hc1
        rw [← hc1]; simp
      | cons x r =>
        rw [seeF_head hd2] at hc1
        rw [← hc1]; simp
    clear h35
    by_cases hL : c1 ≠ 125 ∧ opOf (S.data.toList.drop (a + 1)) = []
    · have z125a : ((c1.toNat : Int) == 125) = false := by rw [h125]; exact beq_eq_false_iff_ne.2 hL.1
      have n125a : ¬ ((c1.toNat : Int) = 125) := fun e => by rw [e] at z125a; exact absurd z125a (by decide)
      have HHD : Hid (headF s = ([76], (S.data.toList.drop (a + 1)).take (longParam (S.data.toList.drop (a + 1))), (S.data.toList.drop (a + 1)).drop (longParam (S.data.toList.drop (a + 1))))) := head_L hsr (fun e => hL.1 (hhd.1 e)) hL.2
      have HL2 := Lib.hid hL.2
      clear hL h125 hhd
      go_enter Try.func54, Try.ntmps54
      go_wp2_with fail
      rw [HWA.out, HG.out]
      go_wp2_with (go_at_call 26; (with_reducible refine (see_seq HB0.out.rr 0 0 a rfl rfl (by omega) (by omega) hc0).mono ?_); rintro e w1 ⟨rfl, hu⟩; have HB1 := Lib.hid (HB0.out.under hu); clear hu; have q1 : w1.cell? ⟨rb, 1, none⟩ = some (.int .i64 a) := cell_of HB1.out.rr 1; have f1 := free_of HB1.out.rr 1; simp only [])
      have HB2 := Lib.hid (HB1.out.setI (a + 1) (ai := (a : Int) + 1) (by omega))
      go_wp2_with (go_at_call 65; (with_reducible refine (op_any HB2.out.rr (by omega)).mono ?_); rintro e w2 ⟨t2, rfl, ht2, hu⟩; have HB3 := Lib.hid (HB2.out.under hu); clear hu q1 f1; have q1 : w2.cell? ⟨rb, 1, none⟩ = some (.int .i64 ((a : Int) + 1)) := by have := cell_of HB3.out.rr 1; simpa using this
                   have f1 := free_of HB3.out.rr 1; simp only [])
      have HB4 := Lib.hid (HB3.out.setI a (ai := (a : Int)) rfl)
      go_wp2_with (go_at_call 26; (with_reducible refine (see_seq HB4.out.rr 1 1 (a + 1) rfl rfl (by omega) (by omega) hc1).mono ?_); rintro e w3 ⟨rfl, hu⟩; have HB5 := Lib.hid (HB4.out.under hu); clear hu q1 f1; have q1 : w3.cell? ⟨rb, 1, none⟩ = some (.int .i64 a) := cell_of HB5.out.rr 1; have f1 := free_of HB5.out.rr 1; have htE : t2.toList.isEmpty = true := isE_of (ht2.trans HL2.out); have HB6f := Lib.hid (HB5.out.setI (a + 1) (ai := (a : Int) + 1) (by omega)); have cL : (w3.setCell ⟨rb, 1, none⟩ (.int .i64 ((a : Int) + 1))).cell? ⟨g, 3, none⟩ = some (.string ⟨#[]⟩) := cell_of HB6f.out.box 3; have fL := free_of HB6f.out.box 3; simp only [])
      have HB6 := Lib.hid (HB5.out.setI (a + 1) (ai := (a : Int) + 1) (by omega))
      have HBT := Lib.hid (HB6.out.setO ⟨#[76]⟩)
      obtain ⟨np, hnp⟩ : ∃ np, longParam (S.data.toList.drop (a + 1)) = np := ⟨_, rfl⟩
      have hnpl : np ≤ S.size - ((a + 1)) := by rw [← hnp]; exact Nat.le_trans (longParam_le _) (by rw [List.length_drop, dl]; omega)
      obtain ⟨m, hm⟩ : ∃ m, (a + 1) + np = m := ⟨_, rfl⟩
      have hmS : m ≤ S.size := by omega
      have hma : a ≤ m := by omega
      have HNM : Hid (Calls Try.prog 66 #[.pointer (some ⟨rb, 0, none⟩)] ((w3.setCell ⟨rb, 1, none⟩ (.int .i64 ((a : Int) + 1))).setCell ⟨g, 3, none⟩ (.string ⟨#[76]⟩)) fun e w' => ∃ t : ByteArray, e = .returned (.string t) ∧ t.data.toList = (S.data.toList.drop (a + 1)).take np ∧ BR w w' rb S m 0 g ⟨#[]⟩ ⟨#[76]⟩ (.slice none 0 0) q) := (name_any HBT.out.rr (by omega) (by omega)).mono (by
        rintro e w' ⟨t, rfl, h1, h2, h3⟩
        rw [hnp] at h1 h2
        rw [hm] at h2
        exact ⟨t, rfl, h1, HBT.out.turn h2 h3⟩)
      have HNAME : Hid ((headF s).2.1 = (S.data.toList.drop (a + 1)).take np) := by rw [show headF s = _ from HHD.out, hnp]; rfl
      have HOPN : Hid ((headF s).1 = [76]) := by rw [show headF s = _ from HHD.out]; rfl
      have HREST : Hid ((headF s).2.2 = S.data.toList.drop m) := by rw [show headF s = _ from HHD.out, hnp]; show ((S.data.toList.drop (a + 1)).drop np) = _; rw [List.drop_drop, hm]
      by_cases hne : (S.data.toList.drop (a + 1)).take np = []
      · have HBF : Hid (braceF (wordC q (d + 1)) q d s = .error 2) := brace_none (HNAME.out.trans hne)
        have HNE := Lib.hid hne
        clear hne hm hnp
        go_wp2_with (first
          | (go_at_call 66
             (with_reducible refine HNM.out.mono ?_)
             rintro e w5 ⟨N, rfl, hN, hb5⟩
             have HB8 := Lib.hid hb5
             have hNE : N.toList.isEmpty = true := isE_of (hN.trans HNE.out)
             have cN : w5.cell? ⟨g, 2, none⟩ = some (.string ⟨#[]⟩) := cell_of hb5.box 2
             have fN := free_of hb5.box 2
             have HB9 := Lib.hid (hb5.setN N)
             have cN2 : (w5.setCell ⟨g, 2, none⟩ (.string N)).cell? ⟨g, 2, none⟩ = some (.string N) := cell_of HB9.out.box 2
             clear hb5 hN
             simp only [])
          | (go_at_call 39
             refine (HE2.out _ _ _ _ _ HB9.out (by omega) HBF.out).mono ?_
             rintro e w6 ⟨rfl, h6⟩
             have H6 := Lib.hid h6
             clear h6
             simp only []))
        exact H6.out
      have HNE := Lib.hid hne
      clear hne
      have HNM2 : Hid (Calls Try.prog 66 #[.pointer (some ⟨rb, 0, none⟩)] ((w3.setCell ⟨rb, 1, none⟩ (.int .i64 ((a : Int) + 1))).setCell ⟨g, 3, none⟩ (.string ⟨#[76]⟩)) fun e w' => ∃ t : ByteArray, e = .returned (.string t) ∧ t.toList.isEmpty = false ∧ t.data.toList = (S.data.toList.drop (a + 1)).take np ∧ BR w w' rb S m 0 g ⟨#[]⟩ ⟨#[76]⟩ (.slice none 0 0) q) := HNM.out.mono (by
        rintro e w' ⟨t, rfl, h1, h2⟩
        exact ⟨t, rfl, isE_ne (by rw [h1]; exact HNE.out), h1, h2⟩)
      go_wp2_with (go_at_call 66
                   (with_reducible refine HNM2.out.mono ?_)
                   rintro e w5 ⟨N, rfl, hNE, hN, hb5⟩
                   have HB8 := Lib.hid hb5
                   have HND := Lib.hid hN
                   have cN : w5.cell? ⟨g, 2, none⟩ = some (.string ⟨#[]⟩) := cell_of hb5.box 2
                   have fN := free_of hb5.box 2
                   have HB9 := Lib.hid (hb5.setN N)
                   have cN2 : (w5.setCell ⟨g, 2, none⟩ (.string N)).cell? ⟨g, 2, none⟩ = some (.string N) := cell_of HB9.out.box 2
                   clear hb5 hN
                   simp only [])
      by_cases hov : S.size ≤ m
      · have HBF : Hid (braceF (wordC q (d + 1)) q d s = .error 2) := by
          rw [brace_plain (by rw [HNAME.out]; exact HNE.out) (.inr HOPN.out), HREST.out, List.drop_of_length_le (by rw [dl]; exact hov)]; rfl
        have HO1 := Lib.hid (over_seq HB9.out.rr true (decide_eq_true hov))
        clear hov hm
        go_wp2_with (first
          | (go_at_call 25
             (with_reducible refine HO1.out.mono ?_)
             rintro e w6 ⟨rfl, hu⟩
             have HBA := Lib.hid (HB9.out.under hu)
             clear hu
             simp only [])
          | (go_at_call 39
             refine (HE2.out _ _ _ _ _ HBA.out (by omega) HBF.out).mono ?_
             rintro e w7 ⟨rfl, h6⟩
             have H6 := Lib.hid h6
             clear h6
             simp only []))
        exact H6.out
      have hlt : m < S.size := by omega
      have HO1 := Lib.hid (over_seq HB9.out.rr false (decide_eq_false hov))
      clear hov
      obtain ⟨c2, hc2⟩ : ∃ c2, seeF S m = c2 := ⟨_, rfl⟩
      have HSE2 : Hid (∀ w5, BR w w5 rb S m 0 g N ⟨#[76]⟩ (.slice none 0 0) q → Calls Try.prog 26 #[.pointer (some ⟨rb, 0, none⟩), .int .i64 0] w5 fun e w' => e = .returned (.int .u8 c2.toNat) ∧ Below w5.heap.size w5 w') := fun w5 h5 => see_seq h5.rr 0 0 m rfl rfl (by omega) (by omega) hc2
      have hc125 := byte_eq c2 125
      rw [show ((125 : UInt8).toNat : Int) = 125 from rfl] at hc125
      have hmw : IntKind.i64.wrap ((m : Int) + 1) = (m : Int) + 1 := IntWalk.i64_in _ (by omega)
      by_cases e125 : c2 = 125
      · have z125 : ((c2.toNat : Int) == 125) = true := by rw [hc125, e125]; rfl
        have n125 : (c2.toNat : Int) = 125 := by rw [e125]; rfl
        have hlt2 : m < S.size := by
          by_cases h : m < S.size
          · exact h
          · rw [seeF_off (by omega)] at hc2
            rw [← hc2] at e125; exact absurd e125 (by decide)
        have HBF : Hid (braceF (wordC q (d + 1)) q d s = .ok (.mk 3 [] N.data.toList (⟨#[76]⟩ : ByteArray).data.toList [] q, S.data.toList.drop (m + 1))) := by
          have hat := data_get S m hlt2
          have hdr := at_drop hat
          rw [← seeF_head hdr, hc2, e125] at hdr
          rw [brace_plain (by rw [HNAME.out]; exact HNE.out) (.inr HOPN.out), HREST.out, hdr, HNAME.out, HOPN.out, HND.out]
          exact if_pos rfl
        clear hc125 e125
        go_wp2_with (first
          | (go_at_call 25
             (with_reducible refine HO1.out.mono ?_)
             rintro e w6 ⟨rfl, hu⟩
             have HBA := Lib.hid (HB9.out.under hu)
             clear hu
             have cO : w6.cell? ⟨g, 3, none⟩ = some (.string ⟨#[76]⟩) := cell_of HBA.out.box 3
             have fO := free_of HBA.out.box 3
             simp only [])
          | (go_at_call 26
             (with_reducible refine (HSE2.out _ HBA.out).mono ?_)
             rintro e w9 ⟨rfl, hu⟩
             have HBC := Lib.hid (HBA.out.under hu)
             have HWC := Lib.hid ((Wd.nil 0 : Wd w9 (fun k => w.heap.size ≤ k) (.slice none 0 0) []))
             clear hu
             have q19 : w9.cell? ⟨rb, 1, none⟩ = some (.int .i64 m) := cell_of HBC.out.rr 1
             have f19 := free_of HBC.out.rr 1
             have HBD := Lib.hid (HBC.out.setI (m + 1) (ai := (m : Int) + 1) (by omega))
             have p0 : (w9.setCell ⟨rb, 1, none⟩ (.int .i64 ((m : Int) + 1))).cell? ⟨g, 0, none⟩ = some (.int .i64 3) := cell_of HBD.out.box 0
             have p1 : (w9.setCell ⟨rb, 1, none⟩ (.int .i64 ((m : Int) + 1))).cell? ⟨g, 1, none⟩ = some (.string ⟨#[]⟩) := cell_of HBD.out.box 1
             have p2 : (w9.setCell ⟨rb, 1, none⟩ (.int .i64 ((m : Int) + 1))).cell? ⟨g, 2, none⟩ = some (.string N) := cell_of HBD.out.box 2
             have p3 : (w9.setCell ⟨rb, 1, none⟩ (.int .i64 ((m : Int) + 1))).cell? ⟨g, 3, none⟩ = some (.string ⟨#[76]⟩) := cell_of HBD.out.box 3
             have p4 : (w9.setCell ⟨rb, 1, none⟩ (.int .i64 ((m : Int) + 1))).cell? ⟨g, 4, none⟩ = some ((.slice none 0 0)) := cell_of HBD.out.box 4
             have p5 : (w9.setCell ⟨rb, 1, none⟩ (.int .i64 ((m : Int) + 1))).cell? ⟨g, 5, none⟩ = some (.bool q) := cell_of HBD.out.box 5
             have HWD2 : Hid (Wd (w9.setCell ⟨rb, 1, none⟩ (.int .i64 ((m : Int) + 1))) (fun k => w.heap.size ≤ k) ((.slice none 0 0)) []) := HWC.out.keep fun k cur hk hc => ⟨hk, (heap_other (cells_ne hc HBC.out.rr (by decide)) _ _).trans hc⟩
             obtain ⟨a8, n8, c8, w8, L8, r8, hr8⟩ := HBD.out.finish H0.out hZ HWD2.out
             have HR8 := Lib.hid hr8
             rw [show (w9.setCell ⟨rb, 1, none⟩ (.int .i64 ((m : Int) + 1))).heap.size = w9.heap.size by simp] at r8
             clear hr8
             simp only [])
          | (at_builtin; refine wpList_run_append _ rfl _ _ 32 32 rfl _ _ rfl rfl r8 ?_))
        exact HDONE.out _ _ _ _ _ _ _ _ _ _ HR8.out (by omega) rfl (by omega) HBF.out
      · have z125 : ((c2.toNat : Int) == 125) = false := by rw [hc125]; exact beq_eq_false_iff_ne.2 e125
        have n125 : ¬ ((c2.toNat : Int) = 125) := fun e => by rw [e] at z125; exact absurd z125 (by decide)
        have HBF : Hid (braceF (wordC q (d + 1)) q d s = .error 2) := by
          have hrest : ∀ r, S.data.toList.drop m = 125 :: r → False := fun r hr => e125 (by rw [← hc2]; exact seeF_head hr)
          rw [brace_plain (by rw [HNAME.out]; exact HNE.out) (.inr HOPN.out), HREST.out]
          cases hr : S.data.toList.drop m with
          | nil => rfl
          | cons x r =>
            exact if_neg (fun e => hrest r (by rw [hr, e]))
        clear hc125 e125
        go_wp2_with (first
          | (go_at_call 25
             (with_reducible refine HO1.out.mono ?_)
             rintro e w6 ⟨rfl, hu⟩
             have HBA := Lib.hid (HB9.out.under hu)
             clear hu
             have cO : w6.cell? ⟨g, 3, none⟩ = some (.string ⟨#[76]⟩) := cell_of HBA.out.box 3
             have fO := free_of HBA.out.box 3
             simp only [])
          | (go_at_call 26
             (with_reducible refine (HSE2.out _ HBA.out).mono ?_)
             rintro e w9 ⟨rfl, hu⟩
             have HBC := Lib.hid (HBA.out.under hu)
             clear hu
             simp only [])
          | (go_at_call 39
             refine (HE2.out _ _ _ _ _ HBC.out (by omega) HBF.out).mono ?_
             rintro e w7 ⟨rfl, h6⟩
             have H6 := Lib.hid h6
             clear h6
             simp only []))
        exact H6.out
    · have HHD : Hid (headF s = (opOf ((S.data.toList.drop a).drop (longParam (S.data.toList.drop a))), (S.data.toList.drop a).take (longParam (S.data.toList.drop a)), ((S.data.toList.drop a).drop (longParam (S.data.toList.drop a))).drop (opOf ((S.data.toList.drop a).drop (longParam (S.data.toList.drop a)))).length)) := by
        rw [HSD.out]
        exact head_N (fun h => hL ⟨fun e => h.2.1 (by rw [hsr]; exact hhd.2 e), by have := h.2.2; rw [hsr] at this; exact this⟩)
      by_cases e1 : c1 = 125
      · have n125a : (c1.toNat : Int) = 125 := by rw [e1]; rfl
        have z125a : ((c1.toNat : Int) == 125) = true := by rw [n125a]; rfl
        clear hL h125 hhd e1
        go_enter Try.func54, Try.ntmps54
        go_wp2_with fail
        rw [HWA.out, HG.out]
        go_wp2_with (go_at_call 26; (with_reducible refine (see_seq HB0.out.rr 0 0 a rfl rfl (by omega) (by omega) hc0).mono ?_); rintro e w1 ⟨rfl, hu⟩; have HB1 := Lib.hid (HB0.out.under hu); clear hu; have q1 : w1.cell? ⟨rb, 1, none⟩ = some (.int .i64 a) := cell_of HB1.out.rr 1; have f1 := free_of HB1.out.rr 1; simp only [])
        have HB2 := Lib.hid (HB1.out.setI (a + 1) (ai := (a : Int) + 1) (by omega))
        go_wp2_with (go_at_call 65; (with_reducible refine (op_any HB2.out.rr (by omega)).mono ?_); rintro e w2 ⟨t2, rfl, ht2, hu⟩; have HB3 := Lib.hid (HB2.out.under hu); clear hu q1 f1; have q1 : w2.cell? ⟨rb, 1, none⟩ = some (.int .i64 ((a : Int) + 1)) := by have := cell_of HB3.out.rr 1; simpa using this
                     have f1 := free_of HB3.out.rr 1; simp only [])
        have HB4 := Lib.hid (HB3.out.setI a (ai := (a : Int)) rfl)
        go_wp2_with (go_at_call 26; (with_reducible refine (see_seq HB4.out.rr 1 1 (a + 1) rfl rfl (by omega) (by omega) hc1).mono ?_); rintro e w3 ⟨rfl, hu⟩; have HB5 := Lib.hid (HB4.out.under hu); clear hu q1 f1; have q1 : w3.cell? ⟨rb, 1, none⟩ = some (.int .i64 a) := cell_of HB5.out.rr 1; have f1 := free_of HB5.out.rr 1; simp only [])
        have HBT := Lib.hid HB5.out
        obtain ⟨np, hnp⟩ : ∃ np, longParam (S.data.toList.drop a) = np := ⟨_, rfl⟩
        have hnpl : np ≤ S.size - (a) := by rw [← hnp]; exact Nat.le_trans (longParam_le _) (by rw [List.length_drop, dl]; omega)
        obtain ⟨m, hm⟩ : ∃ m, a + np = m := ⟨_, rfl⟩
        have hmS : m ≤ S.size := by omega
        have hma : a ≤ m := by omega
        have HNM : Hid (Calls Try.prog 66 #[.pointer (some ⟨rb, 0, none⟩)] (w3) fun e w' => ∃ t : ByteArray, e = .returned (.string t) ∧ t.data.toList = (S.data.toList.drop a).take np ∧ BR w w' rb S m 0 g ⟨#[]⟩ ⟨#[]⟩ (.slice none 0 0) q) := (name_any HBT.out.rr (by omega) (by omega)).mono (by
          rintro e w' ⟨t, rfl, h1, h2, h3⟩
          rw [hnp] at h1 h2
          rw [hm] at h2
          exact ⟨t, rfl, h1, HBT.out.turn h2 h3⟩)
        have hdd : (S.data.toList.drop a).drop np = S.data.toList.drop m := by rw [List.drop_drop, hm]
        have HNAME : Hid ((headF s).2.1 = (S.data.toList.drop a).take np) := by rw [show headF s = _ from HHD.out, hnp]; rfl
        have HOPN : Hid ((headF s).1 = opOf (S.data.toList.drop m)) := by rw [show headF s = _ from HHD.out, hnp]; show opOf ((S.data.toList.drop a).drop np) = _; rw [hdd]
        have HREST : Hid ((headF s).2.2 = (S.data.toList.drop m).drop (opOf (S.data.toList.drop m)).length) := by rw [show headF s = _ from HHD.out, hnp]; show ((S.data.toList.drop a).drop np).drop (opOf ((S.data.toList.drop a).drop np)).length = _; rw [hdd]
        clear hdd
        by_cases hne : (S.data.toList.drop a).take np = []
        · have HBF : Hid (braceF (wordC q (d + 1)) q d s = .error 2) := brace_none (HNAME.out.trans hne)
          have HNE := Lib.hid hne
          clear hne hm hnp
          go_wp2_with (first
            | (go_at_call 66
               (with_reducible refine HNM.out.mono ?_)
               rintro e w5 ⟨N, rfl, hN, hb5⟩
               have HB8 := Lib.hid hb5
               have hNE : N.toList.isEmpty = true := isE_of (hN.trans HNE.out)
               have cN : w5.cell? ⟨g, 2, none⟩ = some (.string ⟨#[]⟩) := cell_of hb5.box 2
               have fN := free_of hb5.box 2
               have HB9 := Lib.hid (hb5.setN N)
               have cN2 : (w5.setCell ⟨g, 2, none⟩ (.string N)).cell? ⟨g, 2, none⟩ = some (.string N) := cell_of HB9.out.box 2
               clear hb5 hN
               simp only [])
            | (go_at_call 39
               refine (HE2.out _ _ _ _ _ HB9.out (by omega) HBF.out).mono ?_
               rintro e w6 ⟨rfl, h6⟩
               have H6 := Lib.hid h6
               clear h6
               simp only []))
          exact H6.out
        have HNE := Lib.hid hne
        clear hne
        have HNM2 : Hid (Calls Try.prog 66 #[.pointer (some ⟨rb, 0, none⟩)] (w3) fun e w' => ∃ t : ByteArray, e = .returned (.string t) ∧ t.toList.isEmpty = false ∧ t.data.toList = (S.data.toList.drop a).take np ∧ BR w w' rb S m 0 g ⟨#[]⟩ ⟨#[]⟩ (.slice none 0 0) q) := HNM.out.mono (by
          rintro e w' ⟨t, rfl, h1, h2⟩
          exact ⟨t, rfl, isE_ne (by rw [h1]; exact HNE.out), h1, h2⟩)
        go_wp2_with (go_at_call 66
                     (with_reducible refine HNM2.out.mono ?_)
                     rintro e w5 ⟨N, rfl, hNE, hN, hb5⟩
                     have HB8 := Lib.hid hb5
                     have HND := Lib.hid hN
                     have cN : w5.cell? ⟨g, 2, none⟩ = some (.string ⟨#[]⟩) := cell_of hb5.box 2
                     have fN := free_of hb5.box 2
                     have HB9 := Lib.hid (hb5.setN N)
                     have cN2 : (w5.setCell ⟨g, 2, none⟩ (.string N)).cell? ⟨g, 2, none⟩ = some (.string N) := cell_of HB9.out.box 2
                     clear hb5 hN
                     simp only [])
        by_cases hov : S.size ≤ m
        · have HBF : Hid (braceF (wordC q (d + 1)) q d s = .error 2) := by
            have hz : S.data.toList.drop m = [] := List.drop_of_length_le (by rw [dl]; exact hov)
            rw [brace_plain (by rw [HNAME.out]; exact HNE.out) (.inl (by rw [HOPN.out, hz]; rfl)), HREST.out, hz]; rfl
          have HO1 := Lib.hid (over_seq HB9.out.rr true (decide_eq_true hov))
          clear hov hm
          go_wp2_with (first
            | (go_at_call 25
               (with_reducible refine HO1.out.mono ?_)
               rintro e w6 ⟨rfl, hu⟩
               have HBA := Lib.hid (HB9.out.under hu)
               clear hu
               simp only [])
            | (go_at_call 39
               refine (HE2.out _ _ _ _ _ HBA.out (by omega) HBF.out).mono ?_
               rintro e w7 ⟨rfl, h6⟩
               have H6 := Lib.hid h6
               clear h6
               simp only []))
          exact H6.out
        have hlt : m < S.size := by omega
        have HO1 := Lib.hid (over_seq HB9.out.rr false (decide_eq_false hov))
        clear hov
        by_cases hop0 : opOf (S.data.toList.drop m) = []
        · have HOP0 := Lib.hid hop0
          have HOPC : Hid (∀ w6, BR w w6 rb S m 0 g N ⟨#[]⟩ (.slice none 0 0) q → Calls Try.prog 65 #[.pointer (some ⟨rb, 0, none⟩)] w6 fun e w' => ∃ t : ByteArray, e = .returned (.string t) ∧ t.toList.isEmpty = true ∧ t.data.toList = opOf (S.data.toList.drop m) ∧ BR w w' rb S m 0 g N ⟨#[]⟩ (.slice none 0 0) q) := fun w6 h6 => (op_any h6.rr (by omega)).mono (by
              rintro e w' ⟨t, rfl, h1, h2⟩
              exact ⟨t, rfl, isE_of (h1.trans HOP0.out), h1, h6.under h2⟩)
          clear hop0
          go_wp2_with (first
              | (go_at_call 25
                 (with_reducible refine HO1.out.mono ?_)
                 rintro e w6 ⟨rfl, hu⟩
                 have HBA := Lib.hid (HB9.out.under hu)
                 clear hu
                 have cO : w6.cell? ⟨g, 3, none⟩ = some (.string ⟨#[]⟩) := cell_of HBA.out.box 3
                 have fO := free_of HBA.out.box 3
                 simp only [])
              | (go_at_call 65
                 (with_reducible refine (HOPC.out _ HBA.out).mono ?_)
                 rintro e w7 ⟨t4, rfl, hTE, hT4, hb7⟩
                 have HB7 := Lib.hid hb7
                 have HT4 := Lib.hid hT4
                 clear cO fO
                 have cO7 : w7.cell? ⟨g, 3, none⟩ = some (.string ⟨#[]⟩) := cell_of hb7.box 3
                 have fO7 := free_of hb7.box 3
                 have HBO := Lib.hid (hb7.setO t4)
                 have cO8 : (w7.setCell ⟨g, 3, none⟩ (.string t4)).cell? ⟨g, 3, none⟩ = some (.string t4) := cell_of HBO.out.box 3
                 clear hb7 hT4
                 simp only []))
          obtain ⟨c2, hc2⟩ : ∃ c2, seeF S m = c2 := ⟨_, rfl⟩
          have HSE2 : Hid (∀ w5, BR w w5 rb S m 0 g N t4 (.slice none 0 0) q → Calls Try.prog 26 #[.pointer (some ⟨rb, 0, none⟩), .int .i64 0] w5 fun e w' => e = .returned (.int .u8 c2.toNat) ∧ Below w5.heap.size w5 w') := fun w5 h5 => see_seq h5.rr 0 0 m rfl rfl (by omega) (by omega) hc2
          have hc125 := byte_eq c2 125
          rw [show ((125 : UInt8).toNat : Int) = 125 from rfl] at hc125
          have hmw : IntKind.i64.wrap ((m : Int) + 1) = (m : Int) + 1 := IntWalk.i64_in _ (by omega)
          by_cases e125 : c2 = 125
          · have z125 : ((c2.toNat : Int) == 125) = true := by rw [hc125, e125]; rfl
            have n125 : (c2.toNat : Int) = 125 := by rw [e125]; rfl
            have hlt2 : m < S.size := by
              by_cases h : m < S.size
              · exact h
              · rw [seeF_off (by omega)] at hc2
                rw [← hc2] at e125; exact absurd e125 (by decide)
            have HBF : Hid (braceF (wordC q (d + 1)) q d s = .ok (.mk 3 [] N.data.toList t4.data.toList [] q, S.data.toList.drop (m + 1))) := by
              have hat := data_get S m hlt2
              have hdr := at_drop hat
              rw [← seeF_head hdr, hc2, e125] at hdr
              rw [brace_plain (by rw [HNAME.out]; exact HNE.out) (.inl (HOPN.out.trans HOP0.out)), HREST.out, HOP0.out, List.length_nil, List.drop_zero, hdr, HNAME.out, HOPN.out, HND.out, HT4.out, HOP0.out]
              exact if_pos rfl
            clear hc125 e125
            go_wp2_with (first
              | (go_at_call 26
                 (with_reducible refine (HSE2.out _ HBO.out).mono ?_)
                 rintro e w9 ⟨rfl, hu⟩
                 have HBC := Lib.hid (HBO.out.under hu)
                 have HWC := Lib.hid ((Wd.nil 0 : Wd w9 (fun k => w.heap.size ≤ k) (.slice none 0 0) []))
                 clear hu
                 have q19 : w9.cell? ⟨rb, 1, none⟩ = some (.int .i64 m) := cell_of HBC.out.rr 1
                 have f19 := free_of HBC.out.rr 1
                 have HBD := Lib.hid (HBC.out.setI (m + 1) (ai := (m : Int) + 1) (by omega))
                 have p0 : (w9.setCell ⟨rb, 1, none⟩ (.int .i64 ((m : Int) + 1))).cell? ⟨g, 0, none⟩ = some (.int .i64 3) := cell_of HBD.out.box 0
                 have p1 : (w9.setCell ⟨rb, 1, none⟩ (.int .i64 ((m : Int) + 1))).cell? ⟨g, 1, none⟩ = some (.string ⟨#[]⟩) := cell_of HBD.out.box 1
                 have p2 : (w9.setCell ⟨rb, 1, none⟩ (.int .i64 ((m : Int) + 1))).cell? ⟨g, 2, none⟩ = some (.string N) := cell_of HBD.out.box 2
                 have p3 : (w9.setCell ⟨rb, 1, none⟩ (.int .i64 ((m : Int) + 1))).cell? ⟨g, 3, none⟩ = some (.string t4) := cell_of HBD.out.box 3
                 have p4 : (w9.setCell ⟨rb, 1, none⟩ (.int .i64 ((m : Int) + 1))).cell? ⟨g, 4, none⟩ = some ((.slice none 0 0)) := cell_of HBD.out.box 4
                 have p5 : (w9.setCell ⟨rb, 1, none⟩ (.int .i64 ((m : Int) + 1))).cell? ⟨g, 5, none⟩ = some (.bool q) := cell_of HBD.out.box 5
                 have HWD2 : Hid (Wd (w9.setCell ⟨rb, 1, none⟩ (.int .i64 ((m : Int) + 1))) (fun k => w.heap.size ≤ k) ((.slice none 0 0)) []) := HWC.out.keep fun k cur hk hc => ⟨hk, (heap_other (cells_ne hc HBC.out.rr (by decide)) _ _).trans hc⟩
                 obtain ⟨a8, n8, c8, w8, L8, r8, hr8⟩ := HBD.out.finish H0.out hZ HWD2.out
                 have HR8 := Lib.hid hr8
                 rw [show (w9.setCell ⟨rb, 1, none⟩ (.int .i64 ((m : Int) + 1))).heap.size = w9.heap.size by simp] at r8
                 clear hr8
                 simp only [])
              | (at_builtin; refine wpList_run_append _ rfl _ _ 32 32 rfl _ _ rfl rfl r8 ?_))
            exact HDONE.out _ _ _ _ _ _ _ _ _ _ HR8.out (by omega) rfl (by omega) HBF.out
          · have z125 : ((c2.toNat : Int) == 125) = false := by rw [hc125]; exact beq_eq_false_iff_ne.2 e125
            have n125 : ¬ ((c2.toNat : Int) = 125) := fun e => by rw [e] at z125; exact absurd z125 (by decide)
            have HBF : Hid (braceF (wordC q (d + 1)) q d s = .error 2) := by
              have hrest : ∀ r, S.data.toList.drop m = 125 :: r → False := fun r hr => e125 (by rw [← hc2]; exact seeF_head hr)
              rw [brace_plain (by rw [HNAME.out]; exact HNE.out) (.inl (HOPN.out.trans HOP0.out)), HREST.out, HOP0.out, List.length_nil, List.drop_zero]
              cases hr : S.data.toList.drop m with
              | nil => rfl
              | cons x r =>
                exact if_neg (fun e => hrest r (by rw [hr, e]))
            clear hc125 e125
            go_wp2_with (first
              | (go_at_call 26
                 (with_reducible refine (HSE2.out _ HBO.out).mono ?_)
                 rintro e w9 ⟨rfl, hu⟩
                 have HBC := Lib.hid (HBO.out.under hu)
                 clear hu
                 simp only [])
              | (go_at_call 39
                 refine (HE2.out _ _ _ _ _ HBC.out (by omega) HBF.out).mono ?_
                 rintro e w7 ⟨rfl, h6⟩
                 have H6 := Lib.hid h6
                 clear h6
                 simp only []))
            exact H6.out
        · have hole := opOf_le (S.data.toList.drop m)
          obtain ⟨oL, hoL⟩ : ∃ k, (opOf (S.data.toList.drop m)).length = k := ⟨_, rfl⟩
          obtain ⟨m2, hm2⟩ : ∃ m2, m + oL = m2 := ⟨_, rfl⟩
          have hm2S : m2 ≤ S.size := by rw [hoL, List.length_drop, dl] at hole; omega
          have hmm2 : m ≤ m2 := by omega
          have HREST2 : Hid ((headF s).2.2 = S.data.toList.drop m2) := by rw [HREST.out, hoL, List.drop_drop, hm2]; rfl
          have HNP : Hid (¬ ((headF s).1 = [] ∨ (headF s).1 = [76])) := fun e => e.elim (fun e => hop0 (HOPN.out.symm.trans e)) (fun e => opOf_not76 _ (HOPN.out.symm.trans e))
          have HOPNE := Lib.hid hop0
          have HOL := Lib.hid hoL
          have hmw2 : IntKind.i64.wrap ((m : Int) + (oL : Int)) = (m2 : Int) := (IntWalk.i64_in _ (by omega)).trans (by omega)
          have HOPC : Hid (∀ w6, BR w w6 rb S m 0 g N ⟨#[]⟩ (.slice none 0 0) q → Calls Try.prog 65 #[.pointer (some ⟨rb, 0, none⟩)] w6 fun e w' => ∃ t : ByteArray, e = .returned (.string t) ∧ t.toList.isEmpty = false ∧ t.data.toList = opOf (S.data.toList.drop m) ∧ t.size = oL ∧ BR w w' rb S m 0 g N ⟨#[]⟩ (.slice none 0 0) q) := fun w6 h6 => (op_any h6.rr (by omega)).mono (by
              rintro e w' ⟨t, rfl, h1, h2⟩
              exact ⟨t, rfl, isE_ne (by rw [h1]; exact HOPNE.out), h1, by rw [← dl, h1]; exact HOL.out, h6.under h2⟩)
          clear hop0 hole hoL hm2 hm
          go_wp2_with (first
              | (go_at_call 25
                 (with_reducible refine HO1.out.mono ?_)
                 rintro e w6 ⟨rfl, hu⟩
                 have HBA := Lib.hid (HB9.out.under hu)
                 clear hu
                 have cO : w6.cell? ⟨g, 3, none⟩ = some (.string ⟨#[]⟩) := cell_of HBA.out.box 3
                 have fO := free_of HBA.out.box 3
                 simp only [])
              | (go_at_call 65
                 (with_reducible refine (HOPC.out _ HBA.out).mono ?_)
                 rintro e w7 ⟨t4, rfl, hTE, hT4, hTs, hb7⟩
                 have HB7 := Lib.hid hb7
                 have HT4 := Lib.hid hT4
                 clear cO fO
                 have cO7 : w7.cell? ⟨g, 3, none⟩ = some (.string ⟨#[]⟩) := cell_of hb7.box 3
                 have fO7 := free_of hb7.box 3
                 have HBO := Lib.hid (hb7.setO t4)
                 have cO8 : (w7.setCell ⟨g, 3, none⟩ (.string t4)).cell? ⟨g, 3, none⟩ = some (.string t4) := cell_of HBO.out.box 3
                 clear hb7 hT4
                 have hTsI : (t4.size : Int) = (oL : Int) := by omega
                 simp only []))
          generalize hw8 : w7.setCell ⟨g, 3, none⟩ (.string t4) = w8 at HBO cO8 ⊢
          clear hw8 cO7 fO7
          have q8 : w8.cell? ⟨rb, 1, none⟩ = some (.int .i64 m) := cell_of HBO.out.rr 1
          have f8 := free_of HBO.out.rr 1
          go_still_tail 11, (by kernel_rfl)
          change wpList _ _ _ _ _ w8.drew
          have HBd : Hid (BR w w8.drew rb S m 0 g N t4 (.slice none 0 0) q) := HBO.out.under (drew_below w8 1)
          generalize hw9 : w8.drew = w10 at HBd ⊢
          clear hw9 q8 f8 cO8
          have q10 : w10.cell? ⟨rb, 1, none⟩ = some (.int .i64 m) := cell_of HBd.out.rr 1
          have f10 := free_of HBd.out.rr 1
          have HBE := Lib.hid (HBd.out.setI m2 (ai := (m2 : Int)) rfl)
          have HBW0 : Hid (∀ X, wordC q (d + 1) (S.data.toList.drop m2) = X → d ≠ 40 → braceF (wordC q (d + 1)) q d s = match X with
              | .error x => .error x
              | .ok (w, []) => .error 2
              | .ok (w, c :: r) => if c = 125 then .ok (.mk 3 [] N.data.toList t4.data.toList w q, r) else .error 2) := fun X hX h40 => by
            rw [brace_word (by rw [HNAME.out]; exact HNE.out) HNP.out, if_neg h40, HREST2.out, hX, HNAME.out, HOPN.out, HND.out, HT4.out]
            cases X with
            | error x => rfl
            | ok z => obtain ⟨z1, z2⟩ := z; cases z2 <;> rfl
          by_cases hd40 : d = 40
          · have HBF : Hid (braceF (wordC q (d + 1)) q d s = .error 3) := by rw [brace_word (by rw [HNAME.out]; exact HNE.out) HNP.out, if_pos hd40]; rfl
            have hd1 : 40 ≤ d := by omega
            have hd2 : (40 : Int) ≤ (d : Int) := by omega
            clear hd40
            go_wp2_with (go_at_call 39
                         refine (HE3.out _ _ _ _ _ HBE.out (by omega) HBF.out).mono ?_
                         rintro e w11 ⟨rfl, h6⟩
                         have H6 := Lib.hid h6
                         clear h6
                         simp only [])
            exact H6.out
          have hd1 : d < 40 := by omega
          have hd2 : (d : Int) < 40 := by omega
          have hdw : IntKind.i64.wrap ((d : Int) + 1) = (d : Int) + 1 := IntWalk.i64_in _ (by omega)
          have HW : Hid (∀ w6, BR w w6 rb S m2 0 g N t4 (.slice none 0 0) q → Calls Try.prog 28 #[.pointer (some ⟨rb, 0, none⟩), .bool true, .int .i64 ((d : Int) + 1), .bool q] w6 (WordR w6 rb S (d + 1) (wordC q (d + 1) (S.data.toList.drop m2)))) := fun w6 h6 => by
            have := ih (S.size - m2) (by omega) w6 rb m2 S 2 q (d + 1) true rfl (.inr ⟨by omega, rfl, rfl⟩) (by omega) h6.rr hm2S hS
            rw [show ((d + 1 : Nat) : Int) = (d : Int) + 1 from by omega] at this
            exact this
          have HN40 := Lib.hid hd40
          clear hd40
          have hEd : EAt (d + 1) + 100 ≤ EAt d := by unfold EAt; omega
          have hEd2 : EAt d ≤ 100000 := by unfold EAt; omega
          have HWK : Hid (∀ w6 w', BR w w6 rb S m2 0 g N t4 (.slice none 0 0) q → ∀ v l0, Wd w' (fun k => w6.heap.size ≤ k) v l0 → Wd (w'.setCell ⟨g, 4, none⟩ v) (fun k => w.heap.size ≤ k) v l0) := fun w6 w' h6 v l0 h => h.keep fun k cur hk hc => ⟨Nat.le_trans h6.only.size hk, (heap_other (by have := (Array.getElem?_eq_some_iff.1 h6.box).1; omega) _ _).trans hc⟩
          cases hW : wordC q (d + 1) (S.data.toList.drop m2) with
          | error y =>
            have HBF : Hid (braceF (wordC q (d + 1)) q d s = .error y) := HBW0.out _ hW HN40.out
            have HWE : Hid (∀ w6, BR w w6 rb S m2 0 g N t4 (.slice none 0 0) q → Calls Try.prog 28 #[.pointer (some ⟨rb, 0, none⟩), .bool true, .int .i64 ((d : Int) + 1), .bool q] w6 fun e w' => ∃ va n c a' l0, e = .returned (.slice va n c) ∧ y ≠ 0 ∧ a' ≤ EAt (d + 1) + 50 ∧ BR w w' rb S a' y g N t4 (.slice none 0 0) q ∧ Wd (w'.setCell ⟨g, 4, none⟩ (.slice va n c)) (fun k => w.heap.size ≤ k) (.slice va n c) l0) := fun w6 h6 => (HW.out w6 h6).mono (by
              rintro e w' ⟨va, n, c, a', x, l0, rfl, h1, h2, h3, h4⟩
              rw [hW] at h4
              obtain ⟨rfl, h5, h7⟩ := h4
              exact ⟨va, n, c, a', l0, rfl, h5, h7, h6.turn h1 h2, HWK.out w6 w' h6 _ _ h3⟩)
            clear hW
            go_wp2_with (go_at_call 28
                         (with_reducible refine (HWE.out _ HBE.out).mono ?_)
                         rintro e w11 ⟨va1, n1, c1', a1, l1, rfl, hy0, ha1, hb, hwd⟩
                         have HBY := Lib.hid hb
                         have HY0 := Lib.hid hy0
                         have cW : w11.cell? ⟨g, 4, none⟩ = some (.slice none 0 0) := cell_of hb.box 4
                         have fW := free_of hb.box 4
                         have HBW := Lib.hid (hb.setW (.slice va1 n1 c1'))
                         have HWY := Lib.hid hwd
                         clear hb hwd hy0
                         simp only [])
            obtain ⟨c2, hc2⟩ : ∃ c2, seeF S a1 = c2 := ⟨_, rfl⟩
            have HSE2 : Hid (∀ w5, BR w w5 rb S a1 y g N t4 (.slice va1 n1 c1') q → Calls Try.prog 26 #[.pointer (some ⟨rb, 0, none⟩), .int .i64 0] w5 fun e w' => e = .returned (.int .u8 c2.toNat) ∧ Below w5.heap.size w5 w') := fun w5 h5 => see_seq h5.rr 0 0 a1 rfl rfl (by omega) (by omega) hc2
            have hc125 := byte_eq c2 125
            rw [show ((125 : UInt8).toNat : Int) = 125 from rfl] at hc125
            have hmw3 : IntKind.i64.wrap ((a1 : Int) + 1) = (a1 : Int) + 1 := IntWalk.i64_in _ (by omega)
            by_cases e125 : c2 = 125
            · have z125 : ((c2.toNat : Int) == 125) = true := by rw [hc125, e125]; rfl
              have n125 : (c2.toNat : Int) = 125 := by rw [e125]; rfl
              clear hc125 e125
              go_wp2_with (first
                | (go_at_call 26
                   (with_reducible refine (HSE2.out _ HBW.out).mono ?_)
                   rintro e w9 ⟨rfl, hu⟩
                   have HBC := Lib.hid (HBW.out.under hu)
                   have HWC := Lib.hid (HWY.out.under hu)
                   clear hu
                   have q19 : w9.cell? ⟨rb, 1, none⟩ = some (.int .i64 a1) := cell_of HBC.out.rr 1
                   have f19 := free_of HBC.out.rr 1
                   have HBD := Lib.hid (HBC.out.setI (a1 + 1) (ai := (a1 : Int) + 1) (by omega))
                   have p0 : (w9.setCell ⟨rb, 1, none⟩ (.int .i64 ((a1 : Int) + 1))).cell? ⟨g, 0, none⟩ = some (.int .i64 3) := cell_of HBD.out.box 0
                   have p1 : (w9.setCell ⟨rb, 1, none⟩ (.int .i64 ((a1 : Int) + 1))).cell? ⟨g, 1, none⟩ = some (.string ⟨#[]⟩) := cell_of HBD.out.box 1
                   have p2 : (w9.setCell ⟨rb, 1, none⟩ (.int .i64 ((a1 : Int) + 1))).cell? ⟨g, 2, none⟩ = some (.string N) := cell_of HBD.out.box 2
                   have p3 : (w9.setCell ⟨rb, 1, none⟩ (.int .i64 ((a1 : Int) + 1))).cell? ⟨g, 3, none⟩ = some (.string t4) := cell_of HBD.out.box 3
                   have p4 : (w9.setCell ⟨rb, 1, none⟩ (.int .i64 ((a1 : Int) + 1))).cell? ⟨g, 4, none⟩ = some (.slice va1 n1 c1') := cell_of HBD.out.box 4
                   have p5 : (w9.setCell ⟨rb, 1, none⟩ (.int .i64 ((a1 : Int) + 1))).cell? ⟨g, 5, none⟩ = some (.bool q) := cell_of HBD.out.box 5
                   have HWD2 : Hid (Wd (w9.setCell ⟨rb, 1, none⟩ (.int .i64 ((a1 : Int) + 1))) (fun k => w.heap.size ≤ k) (.slice va1 n1 c1') l1) := HWC.out.keep fun k cur hk hc => ⟨hk, (heap_other (cells_ne hc HBC.out.rr (by decide)) _ _).trans hc⟩
                   obtain ⟨a8, n8, c8, w8, L8, r8, hr8⟩ := HBD.out.finish H0.out hZ HWD2.out
                   have HR8 := Lib.hid hr8
                   rw [show (w9.setCell ⟨rb, 1, none⟩ (.int .i64 ((a1 : Int) + 1))).heap.size = w9.heap.size by simp] at r8
                   clear hr8
                   simp only [])
                | (at_builtin; refine wpList_run_append _ rfl _ _ 32 32 rfl _ _ rfl rfl r8 ?_))
              exact HDERR.out _ _ _ _ _ _ _ _ _ _ HR8.out (by omega) HY0.out HBF.out
            · have z125 : ((c2.toNat : Int) == 125) = false := by rw [hc125]; exact beq_eq_false_iff_ne.2 e125
              have n125 : ¬ ((c2.toNat : Int) = 125) := fun e => by rw [e] at z125; exact absurd z125 (by decide)
              clear hc125 e125
              go_wp2_with (first
                | (go_at_call 26
                   (with_reducible refine (HSE2.out _ HBW.out).mono ?_)
                   rintro e w9 ⟨rfl, hu⟩
                   have HBC := Lib.hid (HBW.out.under hu)
                   clear hu
                   simp only [])
                | (go_at_call 39
                   refine (HEX.out _ _ _ _ _ _ HBC.out (by omega) HY0.out HBF.out).mono ?_
                   rintro e w7' ⟨rfl, h6⟩
                   have H6 := Lib.hid h6
                   clear h6
                   simp only []))
              exact H6.out
          | ok z =>
            obtain ⟨l1, t1⟩ := z
            have hlen := wordC_len hW
            rw [List.length_drop, dl] at hlen
            have HBW1 := Lib.hid (HBW0.out _ hW HN40.out)
            have HWE : Hid (∀ w6, BR w w6 rb S m2 0 g N t4 (.slice none 0 0) q → Calls Try.prog 28 #[.pointer (some ⟨rb, 0, none⟩), .bool true, .int .i64 ((d : Int) + 1), .bool q] w6 fun e w' => ∃ va n c a', e = .returned (.slice va n c) ∧ a' ≤ S.size ∧ m2 ≤ a' ∧ S.data.toList.drop a' = t1 ∧ BR w w' rb S a' 0 g N t4 (.slice none 0 0) q ∧ Wd (w'.setCell ⟨g, 4, none⟩ (.slice va n c)) (fun k => w.heap.size ≤ k) (.slice va n c) l1) := fun w6 h6 => (HW.out w6 h6).mono (by
              rintro e w' ⟨va, n, c, a', x, l0, rfl, h1, h2, h3, h4⟩
              rw [hW] at h4
              obtain ⟨rfl, h5, h7, h8⟩ := h4
              subst h8
              refine ⟨va, n, c, a', rfl, h5, ?_, h7, h6.turn h1 h2, HWK.out w6 w' h6 _ _ h3⟩
              have := congrArg List.length h7
              rw [List.length_drop, dl] at this
              omega)
            clear hW hlen
            go_wp2_with (go_at_call 28
                         (with_reducible refine (HWE.out _ HBE.out).mono ?_)
                         rintro e w11 ⟨va1, n1, c1', a1, rfl, ha1, hma1, hdr1, hb, hwd⟩
                         have HBY := Lib.hid hb
                         have HDR1 := Lib.hid hdr1
                         have cW : w11.cell? ⟨g, 4, none⟩ = some (.slice none 0 0) := cell_of hb.box 4
                         have fW := free_of hb.box 4
                         have HBW := Lib.hid (hb.setW (.slice va1 n1 c1'))
                         have HWY := Lib.hid hwd
                         clear hb hwd hdr1
                         simp only [])
            obtain ⟨c2, hc2⟩ : ∃ c2, seeF S a1 = c2 := ⟨_, rfl⟩
            have HSE2 : Hid (∀ w5, BR w w5 rb S a1 0 g N t4 (.slice va1 n1 c1') q → Calls Try.prog 26 #[.pointer (some ⟨rb, 0, none⟩), .int .i64 0] w5 fun e w' => e = .returned (.int .u8 c2.toNat) ∧ Below w5.heap.size w5 w') := fun w5 h5 => see_seq h5.rr 0 0 a1 rfl rfl (by omega) (by omega) hc2
            have hc125 := byte_eq c2 125
            rw [show ((125 : UInt8).toNat : Int) = 125 from rfl] at hc125
            have hmw : IntKind.i64.wrap ((a1 : Int) + 1) = (a1 : Int) + 1 := IntWalk.i64_in _ (by omega)
            by_cases e125 : c2 = 125
            · have z125 : ((c2.toNat : Int) == 125) = true := by rw [hc125, e125]; rfl
              have n125 : (c2.toNat : Int) = 125 := by rw [e125]; rfl
              have hlt2 : a1 < S.size := by
                by_cases h : a1 < S.size
                · exact h
                · rw [seeF_off (by omega)] at hc2
                  rw [← hc2] at e125; exact absurd e125 (by decide)
              have HBF : Hid (braceF (wordC q (d + 1)) q d s = .ok (.mk 3 [] N.data.toList t4.data.toList l1 q, S.data.toList.drop (a1 + 1))) := by
                have hat := data_get S a1 hlt2
                have hdr := at_drop hat
                rw [← seeF_head hdr, hc2, e125] at hdr
                rw [show braceF (wordC q (d + 1)) q d s = _ from HBW1.out, ← HDR1.out, hdr]
                exact if_pos rfl
              clear hc125 e125
              go_wp2_with (first
                | (go_at_call 26
                   (with_reducible refine (HSE2.out _ HBW.out).mono ?_)
                   rintro e w9 ⟨rfl, hu⟩
                   have HBC := Lib.hid (HBW.out.under hu)
                   have HWC := Lib.hid (HWY.out.under hu)
                   clear hu
                   have q19 : w9.cell? ⟨rb, 1, none⟩ = some (.int .i64 a1) := cell_of HBC.out.rr 1
                   have f19 := free_of HBC.out.rr 1
                   have HBD := Lib.hid (HBC.out.setI (a1 + 1) (ai := (a1 : Int) + 1) (by omega))
                   have p0 : (w9.setCell ⟨rb, 1, none⟩ (.int .i64 ((a1 : Int) + 1))).cell? ⟨g, 0, none⟩ = some (.int .i64 3) := cell_of HBD.out.box 0
                   have p1 : (w9.setCell ⟨rb, 1, none⟩ (.int .i64 ((a1 : Int) + 1))).cell? ⟨g, 1, none⟩ = some (.string ⟨#[]⟩) := cell_of HBD.out.box 1
                   have p2 : (w9.setCell ⟨rb, 1, none⟩ (.int .i64 ((a1 : Int) + 1))).cell? ⟨g, 2, none⟩ = some (.string N) := cell_of HBD.out.box 2
                   have p3 : (w9.setCell ⟨rb, 1, none⟩ (.int .i64 ((a1 : Int) + 1))).cell? ⟨g, 3, none⟩ = some (.string t4) := cell_of HBD.out.box 3
                   have p4 : (w9.setCell ⟨rb, 1, none⟩ (.int .i64 ((a1 : Int) + 1))).cell? ⟨g, 4, none⟩ = some ((.slice va1 n1 c1')) := cell_of HBD.out.box 4
                   have p5 : (w9.setCell ⟨rb, 1, none⟩ (.int .i64 ((a1 : Int) + 1))).cell? ⟨g, 5, none⟩ = some (.bool q) := cell_of HBD.out.box 5
                   have HWD2 : Hid (Wd (w9.setCell ⟨rb, 1, none⟩ (.int .i64 ((a1 : Int) + 1))) (fun k => w.heap.size ≤ k) ((.slice va1 n1 c1')) l1) := HWC.out.keep fun k cur hk hc => ⟨hk, (heap_other (cells_ne hc HBC.out.rr (by decide)) _ _).trans hc⟩
                   obtain ⟨a8, n8, c8, w8, L8, r8, hr8⟩ := HBD.out.finish H0.out hZ HWD2.out
                   have HR8 := Lib.hid hr8
                   rw [show (w9.setCell ⟨rb, 1, none⟩ (.int .i64 ((a1 : Int) + 1))).heap.size = w9.heap.size by simp] at r8
                   clear hr8
                   simp only [])
                | (at_builtin; refine wpList_run_append _ rfl _ _ 32 32 rfl _ _ rfl rfl r8 ?_))
              exact HDONE.out _ _ _ _ _ _ _ _ _ _ HR8.out (by omega) rfl (by omega) HBF.out
            · have z125 : ((c2.toNat : Int) == 125) = false := by rw [hc125]; exact beq_eq_false_iff_ne.2 e125
              have n125 : ¬ ((c2.toNat : Int) = 125) := fun e => by rw [e] at z125; exact absurd z125 (by decide)
              have HBF : Hid (braceF (wordC q (d + 1)) q d s = .error 2) := by
                have hrest : ∀ r, S.data.toList.drop a1 = 125 :: r → False := fun r hr => e125 (by rw [← hc2]; exact seeF_head hr)
                rw [show braceF (wordC q (d + 1)) q d s = _ from HBW1.out, ← HDR1.out]
                cases hr : S.data.toList.drop a1 with
                | nil => rfl
                | cons x r =>
                  exact if_neg (fun e => hrest r (by rw [hr, e]))
              clear hc125 e125
              go_wp2_with (first
                | (go_at_call 26
                   (with_reducible refine (HSE2.out _ HBW.out).mono ?_)
                   rintro e w9 ⟨rfl, hu⟩
                   have HBC := Lib.hid (HBW.out.under hu)
                   clear hu
                   simp only [])
                | (go_at_call 39
                   refine (HE2.out _ _ _ _ _ HBC.out (by omega) HBF.out).mono ?_
                   rintro e w7 ⟨rfl, h6⟩
                   have H6 := Lib.hid h6
                   clear h6
                   simp only []))
              exact H6.out
      · have z125a : ((c1.toNat : Int) == 125) = false := by rw [h125]; exact beq_eq_false_iff_ne.2 e1
        have n125a : ¬ ((c1.toNat : Int) = 125) := fun e => by rw [e] at z125a; exact absurd z125a (by decide)
        have HL2 : Hid (opOf (S.data.toList.drop (a + 1)) ≠ []) := fun e => hL ⟨e1, e⟩
        clear hL h125 hhd e1
        go_enter Try.func54, Try.ntmps54
        go_wp2_with fail
        rw [HWA.out, HG.out]
        go_wp2_with (go_at_call 26; (with_reducible refine (see_seq HB0.out.rr 0 0 a rfl rfl (by omega) (by omega) hc0).mono ?_); rintro e w1 ⟨rfl, hu⟩; have HB1 := Lib.hid (HB0.out.under hu); clear hu; have q1 : w1.cell? ⟨rb, 1, none⟩ = some (.int .i64 a) := cell_of HB1.out.rr 1; have f1 := free_of HB1.out.rr 1; simp only [])
        have HB2 := Lib.hid (HB1.out.setI (a + 1) (ai := (a : Int) + 1) (by omega))
        go_wp2_with (go_at_call 65; (with_reducible refine (op_any HB2.out.rr (by omega)).mono ?_); rintro e w2 ⟨t2, rfl, ht2, hu⟩; have HB3 := Lib.hid (HB2.out.under hu); clear hu q1 f1; have q1 : w2.cell? ⟨rb, 1, none⟩ = some (.int .i64 ((a : Int) + 1)) := by have := cell_of HB3.out.rr 1; simpa using this
                     have f1 := free_of HB3.out.rr 1; simp only [])
        have HB4 := Lib.hid (HB3.out.setI a (ai := (a : Int)) rfl)
        go_wp2_with (go_at_call 26; (with_reducible refine (see_seq HB4.out.rr 1 1 (a + 1) rfl rfl (by omega) (by omega) hc1).mono ?_); rintro e w3 ⟨rfl, hu⟩; have HB5 := Lib.hid (HB4.out.under hu); clear hu q1 f1; have q1 : w3.cell? ⟨rb, 1, none⟩ = some (.int .i64 a) := cell_of HB5.out.rr 1; have f1 := free_of HB5.out.rr 1; have htE : t2.toList.isEmpty = false := isE_ne (by rw [ht2]; exact HL2.out); simp only [])
        have HBT := Lib.hid HB5.out
        obtain ⟨np, hnp⟩ : ∃ np, longParam (S.data.toList.drop a) = np := ⟨_, rfl⟩
        have hnpl : np ≤ S.size - (a) := by rw [← hnp]; exact Nat.le_trans (longParam_le _) (by rw [List.length_drop, dl]; omega)
        obtain ⟨m, hm⟩ : ∃ m, a + np = m := ⟨_, rfl⟩
        have hmS : m ≤ S.size := by omega
        have hma : a ≤ m := by omega
        have HNM : Hid (Calls Try.prog 66 #[.pointer (some ⟨rb, 0, none⟩)] (w3) fun e w' => ∃ t : ByteArray, e = .returned (.string t) ∧ t.data.toList = (S.data.toList.drop a).take np ∧ BR w w' rb S m 0 g ⟨#[]⟩ ⟨#[]⟩ (.slice none 0 0) q) := (name_any HBT.out.rr (by omega) (by omega)).mono (by
          rintro e w' ⟨t, rfl, h1, h2, h3⟩
          rw [hnp] at h1 h2
          rw [hm] at h2
          exact ⟨t, rfl, h1, HBT.out.turn h2 h3⟩)
        have hdd : (S.data.toList.drop a).drop np = S.data.toList.drop m := by rw [List.drop_drop, hm]
        have HNAME : Hid ((headF s).2.1 = (S.data.toList.drop a).take np) := by rw [show headF s = _ from HHD.out, hnp]; rfl
        have HOPN : Hid ((headF s).1 = opOf (S.data.toList.drop m)) := by rw [show headF s = _ from HHD.out, hnp]; show opOf ((S.data.toList.drop a).drop np) = _; rw [hdd]
        have HREST : Hid ((headF s).2.2 = (S.data.toList.drop m).drop (opOf (S.data.toList.drop m)).length) := by rw [show headF s = _ from HHD.out, hnp]; show ((S.data.toList.drop a).drop np).drop (opOf ((S.data.toList.drop a).drop np)).length = _; rw [hdd]
        clear hdd
        by_cases hne : (S.data.toList.drop a).take np = []
        · have HBF : Hid (braceF (wordC q (d + 1)) q d s = .error 2) := brace_none (HNAME.out.trans hne)
          have HNE := Lib.hid hne
          clear hne hm hnp
          go_wp2_with (first
            | (go_at_call 66
               (with_reducible refine HNM.out.mono ?_)
               rintro e w5 ⟨N, rfl, hN, hb5⟩
               have HB8 := Lib.hid hb5
               have hNE : N.toList.isEmpty = true := isE_of (hN.trans HNE.out)
               have cN : w5.cell? ⟨g, 2, none⟩ = some (.string ⟨#[]⟩) := cell_of hb5.box 2
               have fN := free_of hb5.box 2
               have HB9 := Lib.hid (hb5.setN N)
               have cN2 : (w5.setCell ⟨g, 2, none⟩ (.string N)).cell? ⟨g, 2, none⟩ = some (.string N) := cell_of HB9.out.box 2
               clear hb5 hN
               simp only [])
            | (go_at_call 39
               refine (HE2.out _ _ _ _ _ HB9.out (by omega) HBF.out).mono ?_
               rintro e w6 ⟨rfl, h6⟩
               have H6 := Lib.hid h6
               clear h6
               simp only []))
          exact H6.out
        have HNE := Lib.hid hne
        clear hne
        have HNM2 : Hid (Calls Try.prog 66 #[.pointer (some ⟨rb, 0, none⟩)] (w3) fun e w' => ∃ t : ByteArray, e = .returned (.string t) ∧ t.toList.isEmpty = false ∧ t.data.toList = (S.data.toList.drop a).take np ∧ BR w w' rb S m 0 g ⟨#[]⟩ ⟨#[]⟩ (.slice none 0 0) q) := HNM.out.mono (by
          rintro e w' ⟨t, rfl, h1, h2⟩
          exact ⟨t, rfl, isE_ne (by rw [h1]; exact HNE.out), h1, h2⟩)
        go_wp2_with (go_at_call 66
                     (with_reducible refine HNM2.out.mono ?_)
                     rintro e w5 ⟨N, rfl, hNE, hN, hb5⟩
                     have HB8 := Lib.hid hb5
                     have HND := Lib.hid hN
                     have cN : w5.cell? ⟨g, 2, none⟩ = some (.string ⟨#[]⟩) := cell_of hb5.box 2
                     have fN := free_of hb5.box 2
                     have HB9 := Lib.hid (hb5.setN N)
                     have cN2 : (w5.setCell ⟨g, 2, none⟩ (.string N)).cell? ⟨g, 2, none⟩ = some (.string N) := cell_of HB9.out.box 2
                     clear hb5 hN
                     simp only [])
        by_cases hov : S.size ≤ m
        · have HBF : Hid (braceF (wordC q (d + 1)) q d s = .error 2) := by
            have hz : S.data.toList.drop m = [] := List.drop_of_length_le (by rw [dl]; exact hov)
            rw [brace_plain (by rw [HNAME.out]; exact HNE.out) (.inl (by rw [HOPN.out, hz]; rfl)), HREST.out, hz]; rfl
          have HO1 := Lib.hid (over_seq HB9.out.rr true (decide_eq_true hov))
          clear hov hm
          go_wp2_with (first
            | (go_at_call 25
               (with_reducible refine HO1.out.mono ?_)
               rintro e w6 ⟨rfl, hu⟩
               have HBA := Lib.hid (HB9.out.under hu)
               clear hu
               simp only [])
            | (go_at_call 39
               refine (HE2.out _ _ _ _ _ HBA.out (by omega) HBF.out).mono ?_
               rintro e w7 ⟨rfl, h6⟩
               have H6 := Lib.hid h6
               clear h6
               simp only []))
          exact H6.out
        have hlt : m < S.size := by omega
        have HO1 := Lib.hid (over_seq HB9.out.rr false (decide_eq_false hov))
        clear hov
        by_cases hop0 : opOf (S.data.toList.drop m) = []
        · have HOP0 := Lib.hid hop0
          have HOPC : Hid (∀ w6, BR w w6 rb S m 0 g N ⟨#[]⟩ (.slice none 0 0) q → Calls Try.prog 65 #[.pointer (some ⟨rb, 0, none⟩)] w6 fun e w' => ∃ t : ByteArray, e = .returned (.string t) ∧ t.toList.isEmpty = true ∧ t.data.toList = opOf (S.data.toList.drop m) ∧ BR w w' rb S m 0 g N ⟨#[]⟩ (.slice none 0 0) q) := fun w6 h6 => (op_any h6.rr (by omega)).mono (by
              rintro e w' ⟨t, rfl, h1, h2⟩
              exact ⟨t, rfl, isE_of (h1.trans HOP0.out), h1, h6.under h2⟩)
          clear hop0
          go_wp2_with (first
              | (go_at_call 25
                 (with_reducible refine HO1.out.mono ?_)
                 rintro e w6 ⟨rfl, hu⟩
                 have HBA := Lib.hid (HB9.out.under hu)
                 clear hu
                 have cO : w6.cell? ⟨g, 3, none⟩ = some (.string ⟨#[]⟩) := cell_of HBA.out.box 3
                 have fO := free_of HBA.out.box 3
                 simp only [])
              | (go_at_call 65
                 (with_reducible refine (HOPC.out _ HBA.out).mono ?_)
                 rintro e w7 ⟨t4, rfl, hTE, hT4, hb7⟩
                 have HB7 := Lib.hid hb7
                 have HT4 := Lib.hid hT4
                 clear cO fO
                 have cO7 : w7.cell? ⟨g, 3, none⟩ = some (.string ⟨#[]⟩) := cell_of hb7.box 3
                 have fO7 := free_of hb7.box 3
                 have HBO := Lib.hid (hb7.setO t4)
                 have cO8 : (w7.setCell ⟨g, 3, none⟩ (.string t4)).cell? ⟨g, 3, none⟩ = some (.string t4) := cell_of HBO.out.box 3
                 clear hb7 hT4
                 simp only []))
          obtain ⟨c2, hc2⟩ : ∃ c2, seeF S m = c2 := ⟨_, rfl⟩
          have HSE2 : Hid (∀ w5, BR w w5 rb S m 0 g N t4 (.slice none 0 0) q → Calls Try.prog 26 #[.pointer (some ⟨rb, 0, none⟩), .int .i64 0] w5 fun e w' => e = .returned (.int .u8 c2.toNat) ∧ Below w5.heap.size w5 w') := fun w5 h5 => see_seq h5.rr 0 0 m rfl rfl (by omega) (by omega) hc2
          have hc125 := byte_eq c2 125
          rw [show ((125 : UInt8).toNat : Int) = 125 from rfl] at hc125
          have hmw : IntKind.i64.wrap ((m : Int) + 1) = (m : Int) + 1 := IntWalk.i64_in _ (by omega)
          by_cases e125 : c2 = 125
          · have z125 : ((c2.toNat : Int) == 125) = true := by rw [hc125, e125]; rfl
            have n125 : (c2.toNat : Int) = 125 := by rw [e125]; rfl
            have hlt2 : m < S.size := by
              by_cases h : m < S.size
              · exact h
              · rw [seeF_off (by omega)] at hc2
                rw [← hc2] at e125; exact absurd e125 (by decide)
            have HBF : Hid (braceF (wordC q (d + 1)) q d s = .ok (.mk 3 [] N.data.toList t4.data.toList [] q, S.data.toList.drop (m + 1))) := by
              have hat := data_get S m hlt2
              have hdr := at_drop hat
              rw [← seeF_head hdr, hc2, e125] at hdr
              rw [brace_plain (by rw [HNAME.out]; exact HNE.out) (.inl (HOPN.out.trans HOP0.out)), HREST.out, HOP0.out, List.length_nil, List.drop_zero, hdr, HNAME.out, HOPN.out, HND.out, HT4.out, HOP0.out]
              exact if_pos rfl
            clear hc125 e125
            go_wp2_with (first
              | (go_at_call 26
                 (with_reducible refine (HSE2.out _ HBO.out).mono ?_)
                 rintro e w9 ⟨rfl, hu⟩
                 have HBC := Lib.hid (HBO.out.under hu)
                 have HWC := Lib.hid ((Wd.nil 0 : Wd w9 (fun k => w.heap.size ≤ k) (.slice none 0 0) []))
                 clear hu
                 have q19 : w9.cell? ⟨rb, 1, none⟩ = some (.int .i64 m) := cell_of HBC.out.rr 1
                 have f19 := free_of HBC.out.rr 1
                 have HBD := Lib.hid (HBC.out.setI (m + 1) (ai := (m : Int) + 1) (by omega))
                 have p0 : (w9.setCell ⟨rb, 1, none⟩ (.int .i64 ((m : Int) + 1))).cell? ⟨g, 0, none⟩ = some (.int .i64 3) := cell_of HBD.out.box 0
                 have p1 : (w9.setCell ⟨rb, 1, none⟩ (.int .i64 ((m : Int) + 1))).cell? ⟨g, 1, none⟩ = some (.string ⟨#[]⟩) := cell_of HBD.out.box 1
                 have p2 : (w9.setCell ⟨rb, 1, none⟩ (.int .i64 ((m : Int) + 1))).cell? ⟨g, 2, none⟩ = some (.string N) := cell_of HBD.out.box 2
                 have p3 : (w9.setCell ⟨rb, 1, none⟩ (.int .i64 ((m : Int) + 1))).cell? ⟨g, 3, none⟩ = some (.string t4) := cell_of HBD.out.box 3
                 have p4 : (w9.setCell ⟨rb, 1, none⟩ (.int .i64 ((m : Int) + 1))).cell? ⟨g, 4, none⟩ = some ((.slice none 0 0)) := cell_of HBD.out.box 4
                 have p5 : (w9.setCell ⟨rb, 1, none⟩ (.int .i64 ((m : Int) + 1))).cell? ⟨g, 5, none⟩ = some (.bool q) := cell_of HBD.out.box 5
                 have HWD2 : Hid (Wd (w9.setCell ⟨rb, 1, none⟩ (.int .i64 ((m : Int) + 1))) (fun k => w.heap.size ≤ k) ((.slice none 0 0)) []) := HWC.out.keep fun k cur hk hc => ⟨hk, (heap_other (cells_ne hc HBC.out.rr (by decide)) _ _).trans hc⟩
                 obtain ⟨a8, n8, c8, w8, L8, r8, hr8⟩ := HBD.out.finish H0.out hZ HWD2.out
                 have HR8 := Lib.hid hr8
                 rw [show (w9.setCell ⟨rb, 1, none⟩ (.int .i64 ((m : Int) + 1))).heap.size = w9.heap.size by simp] at r8
                 clear hr8
                 simp only [])
              | (at_builtin; refine wpList_run_append _ rfl _ _ 32 32 rfl _ _ rfl rfl r8 ?_))
            exact HDONE.out _ _ _ _ _ _ _ _ _ _ HR8.out (by omega) rfl (by omega) HBF.out
          · have z125 : ((c2.toNat : Int) == 125) = false := by rw [hc125]; exact beq_eq_false_iff_ne.2 e125
            have n125 : ¬ ((c2.toNat : Int) = 125) := fun e => by rw [e] at z125; exact absurd z125 (by decide)
            have HBF : Hid (braceF (wordC q (d + 1)) q d s = .error 2) := by
              have hrest : ∀ r, S.data.toList.drop m = 125 :: r → False := fun r hr => e125 (by rw [← hc2]; exact seeF_head hr)
              rw [brace_plain (by rw [HNAME.out]; exact HNE.out) (.inl (HOPN.out.trans HOP0.out)), HREST.out, HOP0.out, List.length_nil, List.drop_zero]
              cases hr : S.data.toList.drop m with
              | nil => rfl
              | cons x r =>
                exact if_neg (fun e => hrest r (by rw [hr, e]))
            clear hc125 e125
            go_wp2_with (first
              | (go_at_call 26
                 (with_reducible refine (HSE2.out _ HBO.out).mono ?_)
                 rintro e w9 ⟨rfl, hu⟩
                 have HBC := Lib.hid (HBO.out.under hu)
                 clear hu
                 simp only [])
              | (go_at_call 39
                 refine (HE2.out _ _ _ _ _ HBC.out (by omega) HBF.out).mono ?_
                 rintro e w7 ⟨rfl, h6⟩
                 have H6 := Lib.hid h6
                 clear h6
                 simp only []))
            exact H6.out
        · have hole := opOf_le (S.data.toList.drop m)
          obtain ⟨oL, hoL⟩ : ∃ k, (opOf (S.data.toList.drop m)).length = k := ⟨_, rfl⟩
          obtain ⟨m2, hm2⟩ : ∃ m2, m + oL = m2 := ⟨_, rfl⟩
          have hm2S : m2 ≤ S.size := by rw [hoL, List.length_drop, dl] at hole; omega
          have hmm2 : m ≤ m2 := by omega
          have HREST2 : Hid ((headF s).2.2 = S.data.toList.drop m2) := by rw [HREST.out, hoL, List.drop_drop, hm2]; rfl
          have HNP : Hid (¬ ((headF s).1 = [] ∨ (headF s).1 = [76])) := fun e => e.elim (fun e => hop0 (HOPN.out.symm.trans e)) (fun e => opOf_not76 _ (HOPN.out.symm.trans e))
          have HOPNE := Lib.hid hop0
          have HOL := Lib.hid hoL
          have hmw2 : IntKind.i64.wrap ((m : Int) + (oL : Int)) = (m2 : Int) := (IntWalk.i64_in _ (by omega)).trans (by omega)
          have HOPC : Hid (∀ w6, BR w w6 rb S m 0 g N ⟨#[]⟩ (.slice none 0 0) q → Calls Try.prog 65 #[.pointer (some ⟨rb, 0, none⟩)] w6 fun e w' => ∃ t : ByteArray, e = .returned (.string t) ∧ t.toList.isEmpty = false ∧ t.data.toList = opOf (S.data.toList.drop m) ∧ t.size = oL ∧ BR w w' rb S m 0 g N ⟨#[]⟩ (.slice none 0 0) q) := fun w6 h6 => (op_any h6.rr (by omega)).mono (by
              rintro e w' ⟨t, rfl, h1, h2⟩
              exact ⟨t, rfl, isE_ne (by rw [h1]; exact HOPNE.out), h1, by rw [← dl, h1]; exact HOL.out, h6.under h2⟩)
          clear hop0 hole hoL hm2 hm
          go_wp2_with (first
              | (go_at_call 25
                 (with_reducible refine HO1.out.mono ?_)
                 rintro e w6 ⟨rfl, hu⟩
                 have HBA := Lib.hid (HB9.out.under hu)
                 clear hu
                 have cO : w6.cell? ⟨g, 3, none⟩ = some (.string ⟨#[]⟩) := cell_of HBA.out.box 3
                 have fO := free_of HBA.out.box 3
                 simp only [])
              | (go_at_call 65
                 (with_reducible refine (HOPC.out _ HBA.out).mono ?_)
                 rintro e w7 ⟨t4, rfl, hTE, hT4, hTs, hb7⟩
                 have HB7 := Lib.hid hb7
                 have HT4 := Lib.hid hT4
                 clear cO fO
                 have cO7 : w7.cell? ⟨g, 3, none⟩ = some (.string ⟨#[]⟩) := cell_of hb7.box 3
                 have fO7 := free_of hb7.box 3
                 have HBO := Lib.hid (hb7.setO t4)
                 have cO8 : (w7.setCell ⟨g, 3, none⟩ (.string t4)).cell? ⟨g, 3, none⟩ = some (.string t4) := cell_of HBO.out.box 3
                 clear hb7 hT4
                 have hTsI : (t4.size : Int) = (oL : Int) := by omega
                 simp only []))
          generalize hw8 : w7.setCell ⟨g, 3, none⟩ (.string t4) = w8 at HBO cO8 ⊢
          clear hw8 cO7 fO7
          have q8 : w8.cell? ⟨rb, 1, none⟩ = some (.int .i64 m) := cell_of HBO.out.rr 1
          have f8 := free_of HBO.out.rr 1
          go_still_tail 11, (by kernel_rfl)
          change wpList _ _ _ _ _ w8.drew
          have HBd : Hid (BR w w8.drew rb S m 0 g N t4 (.slice none 0 0) q) := HBO.out.under (drew_below w8 1)
          generalize hw9 : w8.drew = w10 at HBd ⊢
          clear hw9 q8 f8 cO8
          have q10 : w10.cell? ⟨rb, 1, none⟩ = some (.int .i64 m) := cell_of HBd.out.rr 1
          have f10 := free_of HBd.out.rr 1
          have HBE := Lib.hid (HBd.out.setI m2 (ai := (m2 : Int)) rfl)
          have HBW0 : Hid (∀ X, wordC q (d + 1) (S.data.toList.drop m2) = X → d ≠ 40 → braceF (wordC q (d + 1)) q d s = match X with
              | .error x => .error x
              | .ok (w, []) => .error 2
              | .ok (w, c :: r) => if c = 125 then .ok (.mk 3 [] N.data.toList t4.data.toList w q, r) else .error 2) := fun X hX h40 => by
            rw [brace_word (by rw [HNAME.out]; exact HNE.out) HNP.out, if_neg h40, HREST2.out, hX, HNAME.out, HOPN.out, HND.out, HT4.out]
            cases X with
            | error x => rfl
            | ok z => obtain ⟨z1, z2⟩ := z; cases z2 <;> rfl
          by_cases hd40 : d = 40
          · have HBF : Hid (braceF (wordC q (d + 1)) q d s = .error 3) := by rw [brace_word (by rw [HNAME.out]; exact HNE.out) HNP.out, if_pos hd40]; rfl
            have hd1 : 40 ≤ d := by omega
            have hd2 : (40 : Int) ≤ (d : Int) := by omega
            clear hd40
            go_wp2_with (go_at_call 39
                         refine (HE3.out _ _ _ _ _ HBE.out (by omega) HBF.out).mono ?_
                         rintro e w11 ⟨rfl, h6⟩
                         have H6 := Lib.hid h6
                         clear h6
                         simp only [])
            exact H6.out
          have hd1 : d < 40 := by omega
          have hd2 : (d : Int) < 40 := by omega
          have hdw : IntKind.i64.wrap ((d : Int) + 1) = (d : Int) + 1 := IntWalk.i64_in _ (by omega)
          have HW : Hid (∀ w6, BR w w6 rb S m2 0 g N t4 (.slice none 0 0) q → Calls Try.prog 28 #[.pointer (some ⟨rb, 0, none⟩), .bool true, .int .i64 ((d : Int) + 1), .bool q] w6 (WordR w6 rb S (d + 1) (wordC q (d + 1) (S.data.toList.drop m2)))) := fun w6 h6 => by
            have := ih (S.size - m2) (by omega) w6 rb m2 S 2 q (d + 1) true rfl (.inr ⟨by omega, rfl, rfl⟩) (by omega) h6.rr hm2S hS
            rw [show ((d + 1 : Nat) : Int) = (d : Int) + 1 from by omega] at this
            exact this
          have HN40 := Lib.hid hd40
          clear hd40
          have hEd : EAt (d + 1) + 100 ≤ EAt d := by unfold EAt; omega
          have hEd2 : EAt d ≤ 100000 := by unfold EAt; omega
          have HWK : Hid (∀ w6 w', BR w w6 rb S m2 0 g N t4 (.slice none 0 0) q → ∀ v l0, Wd w' (fun k => w6.heap.size ≤ k) v l0 → Wd (w'.setCell ⟨g, 4, none⟩ v) (fun k => w.heap.size ≤ k) v l0) := fun w6 w' h6 v l0 h => h.keep fun k cur hk hc => ⟨Nat.le_trans h6.only.size hk, (heap_other (by have := (Array.getElem?_eq_some_iff.1 h6.box).1; omega) _ _).trans hc⟩
          cases hW : wordC q (d + 1) (S.data.toList.drop m2) with
          | error y =>
            have HBF : Hid (braceF (wordC q (d + 1)) q d s = .error y) := HBW0.out _ hW HN40.out
            have HWE : Hid (∀ w6, BR w w6 rb S m2 0 g N t4 (.slice none 0 0) q → Calls Try.prog 28 #[.pointer (some ⟨rb, 0, none⟩), .bool true, .int .i64 ((d : Int) + 1), .bool q] w6 fun e w' => ∃ va n c a' l0, e = .returned (.slice va n c) ∧ y ≠ 0 ∧ a' ≤ EAt (d + 1) + 50 ∧ BR w w' rb S a' y g N t4 (.slice none 0 0) q ∧ Wd (w'.setCell ⟨g, 4, none⟩ (.slice va n c)) (fun k => w.heap.size ≤ k) (.slice va n c) l0) := fun w6 h6 => (HW.out w6 h6).mono (by
              rintro e w' ⟨va, n, c, a', x, l0, rfl, h1, h2, h3, h4⟩
              rw [hW] at h4
              obtain ⟨rfl, h5, h7⟩ := h4
              exact ⟨va, n, c, a', l0, rfl, h5, h7, h6.turn h1 h2, HWK.out w6 w' h6 _ _ h3⟩)
            clear hW
            go_wp2_with (go_at_call 28
                         (with_reducible refine (HWE.out _ HBE.out).mono ?_)
                         rintro e w11 ⟨va1, n1, c1', a1, l1, rfl, hy0, ha1, hb, hwd⟩
                         have HBY := Lib.hid hb
                         have HY0 := Lib.hid hy0
                         have cW : w11.cell? ⟨g, 4, none⟩ = some (.slice none 0 0) := cell_of hb.box 4
                         have fW := free_of hb.box 4
                         have HBW := Lib.hid (hb.setW (.slice va1 n1 c1'))
                         have HWY := Lib.hid hwd
                         clear hb hwd hy0
                         simp only [])
            obtain ⟨c2, hc2⟩ : ∃ c2, seeF S a1 = c2 := ⟨_, rfl⟩
            have HSE2 : Hid (∀ w5, BR w w5 rb S a1 y g N t4 (.slice va1 n1 c1') q → Calls Try.prog 26 #[.pointer (some ⟨rb, 0, none⟩), .int .i64 0] w5 fun e w' => e = .returned (.int .u8 c2.toNat) ∧ Below w5.heap.size w5 w') := fun w5 h5 => see_seq h5.rr 0 0 a1 rfl rfl (by omega) (by omega) hc2
            have hc125 := byte_eq c2 125
            rw [show ((125 : UInt8).toNat : Int) = 125 from rfl] at hc125
            have hmw3 : IntKind.i64.wrap ((a1 : Int) + 1) = (a1 : Int) + 1 := IntWalk.i64_in _ (by omega)
            by_cases e125 : c2 = 125
            · have z125 : ((c2.toNat : Int) == 125) = true := by rw [hc125, e125]; rfl
              have n125 : (c2.toNat : Int) = 125 := by rw [e125]; rfl
              clear hc125 e125
              go_wp2_with (first
                | (go_at_call 26
                   (with_reducible refine (HSE2.out _ HBW.out).mono ?_)
                   rintro e w9 ⟨rfl, hu⟩
                   have HBC := Lib.hid (HBW.out.under hu)
                   have HWC := Lib.hid (HWY.out.under hu)
                   clear hu
                   have q19 : w9.cell? ⟨rb, 1, none⟩ = some (.int .i64 a1) := cell_of HBC.out.rr 1
                   have f19 := free_of HBC.out.rr 1
                   have HBD := Lib.hid (HBC.out.setI (a1 + 1) (ai := (a1 : Int) + 1) (by omega))
                   have p0 : (w9.setCell ⟨rb, 1, none⟩ (.int .i64 ((a1 : Int) + 1))).cell? ⟨g, 0, none⟩ = some (.int .i64 3) := cell_of HBD.out.box 0
                   have p1 : (w9.setCell ⟨rb, 1, none⟩ (.int .i64 ((a1 : Int) + 1))).cell? ⟨g, 1, none⟩ = some (.string ⟨#[]⟩) := cell_of HBD.out.box 1
                   have p2 : (w9.setCell ⟨rb, 1, none⟩ (.int .i64 ((a1 : Int) + 1))).cell? ⟨g, 2, none⟩ = some (.string N) := cell_of HBD.out.box 2
                   have p3 : (w9.setCell ⟨rb, 1, none⟩ (.int .i64 ((a1 : Int) + 1))).cell? ⟨g, 3, none⟩ = some (.string t4) := cell_of HBD.out.box 3
                   have p4 : (w9.setCell ⟨rb, 1, none⟩ (.int .i64 ((a1 : Int) + 1))).cell? ⟨g, 4, none⟩ = some (.slice va1 n1 c1') := cell_of HBD.out.box 4
                   have p5 : (w9.setCell ⟨rb, 1, none⟩ (.int .i64 ((a1 : Int) + 1))).cell? ⟨g, 5, none⟩ = some (.bool q) := cell_of HBD.out.box 5
                   have HWD2 : Hid (Wd (w9.setCell ⟨rb, 1, none⟩ (.int .i64 ((a1 : Int) + 1))) (fun k => w.heap.size ≤ k) (.slice va1 n1 c1') l1) := HWC.out.keep fun k cur hk hc => ⟨hk, (heap_other (cells_ne hc HBC.out.rr (by decide)) _ _).trans hc⟩
                   obtain ⟨a8, n8, c8, w8, L8, r8, hr8⟩ := HBD.out.finish H0.out hZ HWD2.out
                   have HR8 := Lib.hid hr8
                   rw [show (w9.setCell ⟨rb, 1, none⟩ (.int .i64 ((a1 : Int) + 1))).heap.size = w9.heap.size by simp] at r8
                   clear hr8
                   simp only [])
                | (at_builtin; refine wpList_run_append _ rfl _ _ 32 32 rfl _ _ rfl rfl r8 ?_))
              exact HDERR.out _ _ _ _ _ _ _ _ _ _ HR8.out (by omega) HY0.out HBF.out
            · have z125 : ((c2.toNat : Int) == 125) = false := by rw [hc125]; exact beq_eq_false_iff_ne.2 e125
              have n125 : ¬ ((c2.toNat : Int) = 125) := fun e => by rw [e] at z125; exact absurd z125 (by decide)
              clear hc125 e125
              go_wp2_with (first
                | (go_at_call 26
                   (with_reducible refine (HSE2.out _ HBW.out).mono ?_)
                   rintro e w9 ⟨rfl, hu⟩
                   have HBC := Lib.hid (HBW.out.under hu)
                   clear hu
                   simp only [])
                | (go_at_call 39
                   refine (HEX.out _ _ _ _ _ _ HBC.out (by omega) HY0.out HBF.out).mono ?_
                   rintro e w7' ⟨rfl, h6⟩
                   have H6 := Lib.hid h6
                   clear h6
                   simp only []))
              exact H6.out
          | ok z =>
            obtain ⟨l1, t1⟩ := z
            have hlen := wordC_len hW
            rw [List.length_drop, dl] at hlen
            have HBW1 := Lib.hid (HBW0.out _ hW HN40.out)
            have HWE : Hid (∀ w6, BR w w6 rb S m2 0 g N t4 (.slice none 0 0) q → Calls Try.prog 28 #[.pointer (some ⟨rb, 0, none⟩), .bool true, .int .i64 ((d : Int) + 1), .bool q] w6 fun e w' => ∃ va n c a', e = .returned (.slice va n c) ∧ a' ≤ S.size ∧ m2 ≤ a' ∧ S.data.toList.drop a' = t1 ∧ BR w w' rb S a' 0 g N t4 (.slice none 0 0) q ∧ Wd (w'.setCell ⟨g, 4, none⟩ (.slice va n c)) (fun k => w.heap.size ≤ k) (.slice va n c) l1) := fun w6 h6 => (HW.out w6 h6).mono (by
              rintro e w' ⟨va, n, c, a', x, l0, rfl, h1, h2, h3, h4⟩
              rw [hW] at h4
              obtain ⟨rfl, h5, h7, h8⟩ := h4
              subst h8
              refine ⟨va, n, c, a', rfl, h5, ?_, h7, h6.turn h1 h2, HWK.out w6 w' h6 _ _ h3⟩
              have := congrArg List.length h7
              rw [List.length_drop, dl] at this
              omega)
            clear hW hlen
            go_wp2_with (go_at_call 28
                         (with_reducible refine (HWE.out _ HBE.out).mono ?_)
                         rintro e w11 ⟨va1, n1, c1', a1, rfl, ha1, hma1, hdr1, hb, hwd⟩
                         have HBY := Lib.hid hb
                         have HDR1 := Lib.hid hdr1
                         have cW : w11.cell? ⟨g, 4, none⟩ = some (.slice none 0 0) := cell_of hb.box 4
                         have fW := free_of hb.box 4
                         have HBW := Lib.hid (hb.setW (.slice va1 n1 c1'))
                         have HWY := Lib.hid hwd
                         clear hb hwd hdr1
                         simp only [])
            obtain ⟨c2, hc2⟩ : ∃ c2, seeF S a1 = c2 := ⟨_, rfl⟩
            have HSE2 : Hid (∀ w5, BR w w5 rb S a1 0 g N t4 (.slice va1 n1 c1') q → Calls Try.prog 26 #[.pointer (some ⟨rb, 0, none⟩), .int .i64 0] w5 fun e w' => e = .returned (.int .u8 c2.toNat) ∧ Below w5.heap.size w5 w') := fun w5 h5 => see_seq h5.rr 0 0 a1 rfl rfl (by omega) (by omega) hc2
            have hc125 := byte_eq c2 125
            rw [show ((125 : UInt8).toNat : Int) = 125 from rfl] at hc125
            have hmw : IntKind.i64.wrap ((a1 : Int) + 1) = (a1 : Int) + 1 := IntWalk.i64_in _ (by omega)
            by_cases e125 : c2 = 125
            · have z125 : ((c2.toNat : Int) == 125) = true := by rw [hc125, e125]; rfl
              have n125 : (c2.toNat : Int) = 125 := by rw [e125]; rfl
              have hlt2 : a1 < S.size := by
                by_cases h : a1 < S.size
                · exact h
                · rw [seeF_off (by omega)] at hc2
                  rw [← hc2] at e125; exact absurd e125 (by decide)
              have HBF : Hid (braceF (wordC q (d + 1)) q d s = .ok (.mk 3 [] N.data.toList t4.data.toList l1 q, S.data.toList.drop (a1 + 1))) := by
                have hat := data_get S a1 hlt2
                have hdr := at_drop hat
                rw [← seeF_head hdr, hc2, e125] at hdr
                rw [show braceF (wordC q (d + 1)) q d s = _ from HBW1.out, ← HDR1.out, hdr]
                exact if_pos rfl
              clear hc125 e125
              go_wp2_with (first
                | (go_at_call 26
                   (with_reducible refine (HSE2.out _ HBW.out).mono ?_)
                   rintro e w9 ⟨rfl, hu⟩
                   have HBC := Lib.hid (HBW.out.under hu)
                   have HWC := Lib.hid (HWY.out.under hu)
                   clear hu
                   have q19 : w9.cell? ⟨rb, 1, none⟩ = some (.int .i64 a1) := cell_of HBC.out.rr 1
                   have f19 := free_of HBC.out.rr 1
                   have HBD := Lib.hid (HBC.out.setI (a1 + 1) (ai := (a1 : Int) + 1) (by omega))
                   have p0 : (w9.setCell ⟨rb, 1, none⟩ (.int .i64 ((a1 : Int) + 1))).cell? ⟨g, 0, none⟩ = some (.int .i64 3) := cell_of HBD.out.box 0
                   have p1 : (w9.setCell ⟨rb, 1, none⟩ (.int .i64 ((a1 : Int) + 1))).cell? ⟨g, 1, none⟩ = some (.string ⟨#[]⟩) := cell_of HBD.out.box 1
                   have p2 : (w9.setCell ⟨rb, 1, none⟩ (.int .i64 ((a1 : Int) + 1))).cell? ⟨g, 2, none⟩ = some (.string N) := cell_of HBD.out.box 2
                   have p3 : (w9.setCell ⟨rb, 1, none⟩ (.int .i64 ((a1 : Int) + 1))).cell? ⟨g, 3, none⟩ = some (.string t4) := cell_of HBD.out.box 3
                   have p4 : (w9.setCell ⟨rb, 1, none⟩ (.int .i64 ((a1 : Int) + 1))).cell? ⟨g, 4, none⟩ = some ((.slice va1 n1 c1')) := cell_of HBD.out.box 4
                   have p5 : (w9.setCell ⟨rb, 1, none⟩ (.int .i64 ((a1 : Int) + 1))).cell? ⟨g, 5, none⟩ = some (.bool q) := cell_of HBD.out.box 5
                   have HWD2 : Hid (Wd (w9.setCell ⟨rb, 1, none⟩ (.int .i64 ((a1 : Int) + 1))) (fun k => w.heap.size ≤ k) ((.slice va1 n1 c1')) l1) := HWC.out.keep fun k cur hk hc => ⟨hk, (heap_other (cells_ne hc HBC.out.rr (by decide)) _ _).trans hc⟩
                   obtain ⟨a8, n8, c8, w8, L8, r8, hr8⟩ := HBD.out.finish H0.out hZ HWD2.out
                   have HR8 := Lib.hid hr8
                   rw [show (w9.setCell ⟨rb, 1, none⟩ (.int .i64 ((a1 : Int) + 1))).heap.size = w9.heap.size by simp] at r8
                   clear hr8
                   simp only [])
                | (at_builtin; refine wpList_run_append _ rfl _ _ 32 32 rfl _ _ rfl rfl r8 ?_))
              exact HDONE.out _ _ _ _ _ _ _ _ _ _ HR8.out (by omega) rfl (by omega) HBF.out
            · have z125 : ((c2.toNat : Int) == 125) = false := by rw [hc125]; exact beq_eq_false_iff_ne.2 e125
              have n125 : ¬ ((c2.toNat : Int) = 125) := fun e => by rw [e] at z125; exact absurd z125 (by decide)
              have HBF : Hid (braceF (wordC q (d + 1)) q d s = .error 2) := by
                have hrest : ∀ r, S.data.toList.drop a1 = 125 :: r → False := fun r hr => e125 (by rw [← hc2]; exact seeF_head hr)
                rw [show braceF (wordC q (d + 1)) q d s = _ from HBW1.out, ← HDR1.out]
                cases hr : S.data.toList.drop a1 with
                | nil => rfl
                | cons x r =>
                  exact if_neg (fun e => hrest r (by rw [hr, e]))
              clear hc125 e125
              go_wp2_with (first
                | (go_at_call 26
                   (with_reducible refine (HSE2.out _ HBW.out).mono ?_)
                   rintro e w9 ⟨rfl, hu⟩
                   have HBC := Lib.hid (HBW.out.under hu)
                   clear hu
                   simp only [])
                | (go_at_call 39
                   refine (HE2.out _ _ _ _ _ HBC.out (by omega) HBF.out).mono ?_
                   rintro e w7 ⟨rfl, h6⟩
                   have H6 := Lib.hid h6
                   clear h6
                   simp only []))
              exact H6.out
  · have z35 : ((c0.toNat : Int) == 35) = false := by rw [h35]; exact beq_eq_false_iff_ne.2 e35
    have n35 : ¬ ((c0.toNat : Int) = 35) := fun e => by rw [e] at z35; exact absurd z35 (by decide)
    have HHD : Hid (headF s = (opOf ((S.data.toList.drop a).drop (longParam (S.data.toList.drop a))), (S.data.toList.drop a).take (longParam (S.data.toList.drop a)), ((S.data.toList.drop a).drop (longParam (S.data.toList.drop a))).drop (opOf ((S.data.toList.drop a).drop (longParam (S.data.toList.drop a)))).length)) := by
      rw [HSD.out]
      refine head_N (fun h => ?_)
      cases hs2 : s with
      | nil => rw [hs2] at h; exact absurd h.1 (by simp)
      | cons x r =>
        rw [hs2] at h
        have h1 : x = 35 := by simpa using h.1
        rw [seeF_head (hs.trans hs2), h1] at hc0
        exact e35 hc0.symm
    clear h35 e35
    go_enter Try.func54, Try.ntmps54
    go_wp2_with fail
    rw [HWA.out, HG.out]
    go_wp2_with (go_at_call 26; (with_reducible refine (see_seq HB0.out.rr 0 0 a rfl rfl (by omega) (by omega) hc0).mono ?_); rintro e w1 ⟨rfl, hu⟩; have HB1 := Lib.hid (HB0.out.under hu); clear hu; have q1 : w1.cell? ⟨rb, 1, none⟩ = some (.int .i64 a) := cell_of HB1.out.rr 1; have f1 := free_of HB1.out.rr 1; simp only [])
    have HBT := Lib.hid HB1.out
    obtain ⟨np, hnp⟩ : ∃ np, longParam (S.data.toList.drop a) = np := ⟨_, rfl⟩
    have hnpl : np ≤ S.size - (a) := by rw [← hnp]; exact Nat.le_trans (longParam_le _) (by rw [List.length_drop, dl]; omega)
    obtain ⟨m, hm⟩ : ∃ m, a + np = m := ⟨_, rfl⟩
    have hmS : m ≤ S.size := by omega
    have hma : a ≤ m := by omega
    have HNM : Hid (Calls Try.prog 66 #[.pointer (some ⟨rb, 0, none⟩)] (w1) fun e w' => ∃ t : ByteArray, e = .returned (.string t) ∧ t.data.toList = (S.data.toList.drop a).take np ∧ BR w w' rb S m 0 g ⟨#[]⟩ ⟨#[]⟩ (.slice none 0 0) q) := (name_any HBT.out.rr (by omega) (by omega)).mono (by
      rintro e w' ⟨t, rfl, h1, h2, h3⟩
      rw [hnp] at h1 h2
      rw [hm] at h2
      exact ⟨t, rfl, h1, HBT.out.turn h2 h3⟩)
    have hdd : (S.data.toList.drop a).drop np = S.data.toList.drop m := by rw [List.drop_drop, hm]
    have HNAME : Hid ((headF s).2.1 = (S.data.toList.drop a).take np) := by rw [show headF s = _ from HHD.out, hnp]; rfl
    have HOPN : Hid ((headF s).1 = opOf (S.data.toList.drop m)) := by rw [show headF s = _ from HHD.out, hnp]; show opOf ((S.data.toList.drop a).drop np) = _; rw [hdd]
    have HREST : Hid ((headF s).2.2 = (S.data.toList.drop m).drop (opOf (S.data.toList.drop m)).length) := by rw [show headF s = _ from HHD.out, hnp]; show ((S.data.toList.drop a).drop np).drop (opOf ((S.data.toList.drop a).drop np)).length = _; rw [hdd]
    clear hdd
    by_cases hne : (S.data.toList.drop a).take np = []
    · have HBF : Hid (braceF (wordC q (d + 1)) q d s = .error 2) := brace_none (HNAME.out.trans hne)
      have HNE := Lib.hid hne
      clear hne hm hnp
      go_wp2_with (first
        | (go_at_call 66
           (with_reducible refine HNM.out.mono ?_)
           rintro e w5 ⟨N, rfl, hN, hb5⟩
           have HB8 := Lib.hid hb5
           have hNE : N.toList.isEmpty = true := isE_of (hN.trans HNE.out)
           have cN : w5.cell? ⟨g, 2, none⟩ = some (.string ⟨#[]⟩) := cell_of hb5.box 2
           have fN := free_of hb5.box 2
           have HB9 := Lib.hid (hb5.setN N)
           have cN2 : (w5.setCell ⟨g, 2, none⟩ (.string N)).cell? ⟨g, 2, none⟩ = some (.string N) := cell_of HB9.out.box 2
           clear hb5 hN
           simp only [])
        | (go_at_call 39
           refine (HE2.out _ _ _ _ _ HB9.out (by omega) HBF.out).mono ?_
           rintro e w6 ⟨rfl, h6⟩
           have H6 := Lib.hid h6
           clear h6
           simp only []))
      exact H6.out
    have HNE := Lib.hid hne
    clear hne
    have HNM2 : Hid (Calls Try.prog 66 #[.pointer (some ⟨rb, 0, none⟩)] (w1) fun e w' => ∃ t : ByteArray, e = .returned (.string t) ∧ t.toList.isEmpty = false ∧ t.data.toList = (S.data.toList.drop a).take np ∧ BR w w' rb S m 0 g ⟨#[]⟩ ⟨#[]⟩ (.slice none 0 0) q) := HNM.out.mono (by
      rintro e w' ⟨t, rfl, h1, h2⟩
      exact ⟨t, rfl, isE_ne (by rw [h1]; exact HNE.out), h1, h2⟩)
    go_wp2_with (go_at_call 66
                 (with_reducible refine HNM2.out.mono ?_)
                 rintro e w5 ⟨N, rfl, hNE, hN, hb5⟩
                 have HB8 := Lib.hid hb5
                 have HND := Lib.hid hN
                 have cN : w5.cell? ⟨g, 2, none⟩ = some (.string ⟨#[]⟩) := cell_of hb5.box 2
                 have fN := free_of hb5.box 2
                 have HB9 := Lib.hid (hb5.setN N)
                 have cN2 : (w5.setCell ⟨g, 2, none⟩ (.string N)).cell? ⟨g, 2, none⟩ = some (.string N) := cell_of HB9.out.box 2
                 clear hb5 hN
                 simp only [])
    by_cases hov : S.size ≤ m
    · have HBF : Hid (braceF (wordC q (d + 1)) q d s = .error 2) := by
        have hz : S.data.toList.drop m = [] := List.drop_of_length_le (by rw [dl]; exact hov)
        rw [brace_plain (by rw [HNAME.out]; exact HNE.out) (.inl (by rw [HOPN.out, hz]; rfl)), HREST.out, hz]; rfl
      have HO1 := Lib.hid (over_seq HB9.out.rr true (decide_eq_true hov))
      clear hov hm
      go_wp2_with (first
        | (go_at_call 25
           (with_reducible refine HO1.out.mono ?_)
           rintro e w6 ⟨rfl, hu⟩
           have HBA := Lib.hid (HB9.out.under hu)
           clear hu
           simp only [])
        | (go_at_call 39
           refine (HE2.out _ _ _ _ _ HBA.out (by omega) HBF.out).mono ?_
           rintro e w7 ⟨rfl, h6⟩
           have H6 := Lib.hid h6
           clear h6
           simp only []))
      exact H6.out
    have hlt : m < S.size := by omega
    have HO1 := Lib.hid (over_seq HB9.out.rr false (decide_eq_false hov))
    clear hov
    by_cases hop0 : opOf (S.data.toList.drop m) = []
    · have HOP0 := Lib.hid hop0
      have HOPC : Hid (∀ w6, BR w w6 rb S m 0 g N ⟨#[]⟩ (.slice none 0 0) q → Calls Try.prog 65 #[.pointer (some ⟨rb, 0, none⟩)] w6 fun e w' => ∃ t : ByteArray, e = .returned (.string t) ∧ t.toList.isEmpty = true ∧ t.data.toList = opOf (S.data.toList.drop m) ∧ BR w w' rb S m 0 g N ⟨#[]⟩ (.slice none 0 0) q) := fun w6 h6 => (op_any h6.rr (by omega)).mono (by
          rintro e w' ⟨t, rfl, h1, h2⟩
          exact ⟨t, rfl, isE_of (h1.trans HOP0.out), h1, h6.under h2⟩)
      clear hop0
      go_wp2_with (first
          | (go_at_call 25
             (with_reducible refine HO1.out.mono ?_)
             rintro e w6 ⟨rfl, hu⟩
             have HBA := Lib.hid (HB9.out.under hu)
             clear hu
             have cO : w6.cell? ⟨g, 3, none⟩ = some (.string ⟨#[]⟩) := cell_of HBA.out.box 3
             have fO := free_of HBA.out.box 3
             simp only [])
          | (go_at_call 65
             (with_reducible refine (HOPC.out _ HBA.out).mono ?_)
             rintro e w7 ⟨t4, rfl, hTE, hT4, hb7⟩
             have HB7 := Lib.hid hb7
             have HT4 := Lib.hid hT4
             clear cO fO
             have cO7 : w7.cell? ⟨g, 3, none⟩ = some (.string ⟨#[]⟩) := cell_of hb7.box 3
             have fO7 := free_of hb7.box 3
             have HBO := Lib.hid (hb7.setO t4)
             have cO8 : (w7.setCell ⟨g, 3, none⟩ (.string t4)).cell? ⟨g, 3, none⟩ = some (.string t4) := cell_of HBO.out.box 3
             clear hb7 hT4
             simp only []))
      obtain ⟨c2, hc2⟩ : ∃ c2, seeF S m = c2 := ⟨_, rfl⟩
      have HSE2 : Hid (∀ w5, BR w w5 rb S m 0 g N t4 (.slice none 0 0) q → Calls Try.prog 26 #[.pointer (some ⟨rb, 0, none⟩), .int .i64 0] w5 fun e w' => e = .returned (.int .u8 c2.toNat) ∧ Below w5.heap.size w5 w') := fun w5 h5 => see_seq h5.rr 0 0 m rfl rfl (by omega) (by omega) hc2
      have hc125 := byte_eq c2 125
      rw [show ((125 : UInt8).toNat : Int) = 125 from rfl] at hc125
      have hmw : IntKind.i64.wrap ((m : Int) + 1) = (m : Int) + 1 := IntWalk.i64_in _ (by omega)
      by_cases e125 : c2 = 125
      · have z125 : ((c2.toNat : Int) == 125) = true := by rw [hc125, e125]; rfl
        have n125 : (c2.toNat : Int) = 125 := by rw [e125]; rfl
        have hlt2 : m < S.size := by
          by_cases h : m < S.size
          · exact h
          · rw [seeF_off (by omega)] at hc2
            rw [← hc2] at e125; exact absurd e125 (by decide)
        have HBF : Hid (braceF (wordC q (d + 1)) q d s = .ok (.mk 3 [] N.data.toList t4.data.toList [] q, S.data.toList.drop (m + 1))) := by
          have hat := data_get S m hlt2
          have hdr := at_drop hat
          rw [← seeF_head hdr, hc2, e125] at hdr
          rw [brace_plain (by rw [HNAME.out]; exact HNE.out) (.inl (HOPN.out.trans HOP0.out)), HREST.out, HOP0.out, List.length_nil, List.drop_zero, hdr, HNAME.out, HOPN.out, HND.out, HT4.out, HOP0.out]
          exact if_pos rfl
        clear hc125 e125
        go_wp2_with (first
          | (go_at_call 26
             (with_reducible refine (HSE2.out _ HBO.out).mono ?_)
             rintro e w9 ⟨rfl, hu⟩
             have HBC := Lib.hid (HBO.out.under hu)
             have HWC := Lib.hid ((Wd.nil 0 : Wd w9 (fun k => w.heap.size ≤ k) (.slice none 0 0) []))
             clear hu
             have q19 : w9.cell? ⟨rb, 1, none⟩ = some (.int .i64 m) := cell_of HBC.out.rr 1
             have f19 := free_of HBC.out.rr 1
             have HBD := Lib.hid (HBC.out.setI (m + 1) (ai := (m : Int) + 1) (by omega))
             have p0 : (w9.setCell ⟨rb, 1, none⟩ (.int .i64 ((m : Int) + 1))).cell? ⟨g, 0, none⟩ = some (.int .i64 3) := cell_of HBD.out.box 0
             have p1 : (w9.setCell ⟨rb, 1, none⟩ (.int .i64 ((m : Int) + 1))).cell? ⟨g, 1, none⟩ = some (.string ⟨#[]⟩) := cell_of HBD.out.box 1
             have p2 : (w9.setCell ⟨rb, 1, none⟩ (.int .i64 ((m : Int) + 1))).cell? ⟨g, 2, none⟩ = some (.string N) := cell_of HBD.out.box 2
             have p3 : (w9.setCell ⟨rb, 1, none⟩ (.int .i64 ((m : Int) + 1))).cell? ⟨g, 3, none⟩ = some (.string t4) := cell_of HBD.out.box 3
             have p4 : (w9.setCell ⟨rb, 1, none⟩ (.int .i64 ((m : Int) + 1))).cell? ⟨g, 4, none⟩ = some ((.slice none 0 0)) := cell_of HBD.out.box 4
             have p5 : (w9.setCell ⟨rb, 1, none⟩ (.int .i64 ((m : Int) + 1))).cell? ⟨g, 5, none⟩ = some (.bool q) := cell_of HBD.out.box 5
             have HWD2 : Hid (Wd (w9.setCell ⟨rb, 1, none⟩ (.int .i64 ((m : Int) + 1))) (fun k => w.heap.size ≤ k) ((.slice none 0 0)) []) := HWC.out.keep fun k cur hk hc => ⟨hk, (heap_other (cells_ne hc HBC.out.rr (by decide)) _ _).trans hc⟩
             obtain ⟨a8, n8, c8, w8, L8, r8, hr8⟩ := HBD.out.finish H0.out hZ HWD2.out
             have HR8 := Lib.hid hr8
             rw [show (w9.setCell ⟨rb, 1, none⟩ (.int .i64 ((m : Int) + 1))).heap.size = w9.heap.size by simp] at r8
             clear hr8
             simp only [])
          | (at_builtin; refine wpList_run_append _ rfl _ _ 32 32 rfl _ _ rfl rfl r8 ?_))
        exact HDONE.out _ _ _ _ _ _ _ _ _ _ HR8.out (by omega) rfl (by omega) HBF.out
      · have z125 : ((c2.toNat : Int) == 125) = false := by rw [hc125]; exact beq_eq_false_iff_ne.2 e125
        have n125 : ¬ ((c2.toNat : Int) = 125) := fun e => by rw [e] at z125; exact absurd z125 (by decide)
        have HBF : Hid (braceF (wordC q (d + 1)) q d s = .error 2) := by
          have hrest : ∀ r, S.data.toList.drop m = 125 :: r → False := fun r hr => e125 (by rw [← hc2]; exact seeF_head hr)
          rw [brace_plain (by rw [HNAME.out]; exact HNE.out) (.inl (HOPN.out.trans HOP0.out)), HREST.out, HOP0.out, List.length_nil, List.drop_zero]
          cases hr : S.data.toList.drop m with
          | nil => rfl
          | cons x r =>
            exact if_neg (fun e => hrest r (by rw [hr, e]))
        clear hc125 e125
        go_wp2_with (first
          | (go_at_call 26
             (with_reducible refine (HSE2.out _ HBO.out).mono ?_)
             rintro e w9 ⟨rfl, hu⟩
             have HBC := Lib.hid (HBO.out.under hu)
             clear hu
             simp only [])
          | (go_at_call 39
             refine (HE2.out _ _ _ _ _ HBC.out (by omega) HBF.out).mono ?_
             rintro e w7 ⟨rfl, h6⟩
             have H6 := Lib.hid h6
             clear h6
             simp only []))
        exact H6.out
    · have hole := opOf_le (S.data.toList.drop m)
      obtain ⟨oL, hoL⟩ : ∃ k, (opOf (S.data.toList.drop m)).length = k := ⟨_, rfl⟩
      obtain ⟨m2, hm2⟩ : ∃ m2, m + oL = m2 := ⟨_, rfl⟩
      have hm2S : m2 ≤ S.size := by rw [hoL, List.length_drop, dl] at hole; omega
      have hmm2 : m ≤ m2 := by omega
      have HREST2 : Hid ((headF s).2.2 = S.data.toList.drop m2) := by rw [HREST.out, hoL, List.drop_drop, hm2]; rfl
      have HNP : Hid (¬ ((headF s).1 = [] ∨ (headF s).1 = [76])) := fun e => e.elim (fun e => hop0 (HOPN.out.symm.trans e)) (fun e => opOf_not76 _ (HOPN.out.symm.trans e))
      have HOPNE := Lib.hid hop0
      have HOL := Lib.hid hoL
      have hmw2 : IntKind.i64.wrap ((m : Int) + (oL : Int)) = (m2 : Int) := (IntWalk.i64_in _ (by omega)).trans (by omega)
      have HOPC : Hid (∀ w6, BR w w6 rb S m 0 g N ⟨#[]⟩ (.slice none 0 0) q → Calls Try.prog 65 #[.pointer (some ⟨rb, 0, none⟩)] w6 fun e w' => ∃ t : ByteArray, e = .returned (.string t) ∧ t.toList.isEmpty = false ∧ t.data.toList = opOf (S.data.toList.drop m) ∧ t.size = oL ∧ BR w w' rb S m 0 g N ⟨#[]⟩ (.slice none 0 0) q) := fun w6 h6 => (op_any h6.rr (by omega)).mono (by
          rintro e w' ⟨t, rfl, h1, h2⟩
          exact ⟨t, rfl, isE_ne (by rw [h1]; exact HOPNE.out), h1, by rw [← dl, h1]; exact HOL.out, h6.under h2⟩)
      clear hop0 hole hoL hm2 hm
      go_wp2_with (first
          | (go_at_call 25
             (with_reducible refine HO1.out.mono ?_)
             rintro e w6 ⟨rfl, hu⟩
             have HBA := Lib.hid (HB9.out.under hu)
             clear hu
             have cO : w6.cell? ⟨g, 3, none⟩ = some (.string ⟨#[]⟩) := cell_of HBA.out.box 3
             have fO := free_of HBA.out.box 3
             simp only [])
          | (go_at_call 65
             (with_reducible refine (HOPC.out _ HBA.out).mono ?_)
             rintro e w7 ⟨t4, rfl, hTE, hT4, hTs, hb7⟩
             have HB7 := Lib.hid hb7
             have HT4 := Lib.hid hT4
             clear cO fO
             have cO7 : w7.cell? ⟨g, 3, none⟩ = some (.string ⟨#[]⟩) := cell_of hb7.box 3
             have fO7 := free_of hb7.box 3
             have HBO := Lib.hid (hb7.setO t4)
             have cO8 : (w7.setCell ⟨g, 3, none⟩ (.string t4)).cell? ⟨g, 3, none⟩ = some (.string t4) := cell_of HBO.out.box 3
             clear hb7 hT4
             have hTsI : (t4.size : Int) = (oL : Int) := by omega
             simp only []))
      generalize hw8 : w7.setCell ⟨g, 3, none⟩ (.string t4) = w8 at HBO cO8 ⊢
      clear hw8 cO7 fO7
      have q8 : w8.cell? ⟨rb, 1, none⟩ = some (.int .i64 m) := cell_of HBO.out.rr 1
      have f8 := free_of HBO.out.rr 1
      go_still_tail 11, (by kernel_rfl)
      change wpList _ _ _ _ _ w8.drew
      have HBd : Hid (BR w w8.drew rb S m 0 g N t4 (.slice none 0 0) q) := HBO.out.under (drew_below w8 1)
      generalize hw9 : w8.drew = w10 at HBd ⊢
      clear hw9 q8 f8 cO8
      have q10 : w10.cell? ⟨rb, 1, none⟩ = some (.int .i64 m) := cell_of HBd.out.rr 1
      have f10 := free_of HBd.out.rr 1
      have HBE := Lib.hid (HBd.out.setI m2 (ai := (m2 : Int)) rfl)
      have HBW0 : Hid (∀ X, wordC q (d + 1) (S.data.toList.drop m2) = X → d ≠ 40 → braceF (wordC q (d + 1)) q d s = match X with
          | .error x => .error x
          | .ok (w, []) => .error 2
          | .ok (w, c :: r) => if c = 125 then .ok (.mk 3 [] N.data.toList t4.data.toList w q, r) else .error 2) := fun X hX h40 => by
        rw [brace_word (by rw [HNAME.out]; exact HNE.out) HNP.out, if_neg h40, HREST2.out, hX, HNAME.out, HOPN.out, HND.out, HT4.out]
        cases X with
        | error x => rfl
        | ok z => obtain ⟨z1, z2⟩ := z; cases z2 <;> rfl
      by_cases hd40 : d = 40
      · have HBF : Hid (braceF (wordC q (d + 1)) q d s = .error 3) := by rw [brace_word (by rw [HNAME.out]; exact HNE.out) HNP.out, if_pos hd40]; rfl
        have hd1 : 40 ≤ d := by omega
        have hd2 : (40 : Int) ≤ (d : Int) := by omega
        clear hd40
        go_wp2_with (go_at_call 39
                     refine (HE3.out _ _ _ _ _ HBE.out (by omega) HBF.out).mono ?_
                     rintro e w11 ⟨rfl, h6⟩
                     have H6 := Lib.hid h6
                     clear h6
                     simp only [])
        exact H6.out
      have hd1 : d < 40 := by omega
      have hd2 : (d : Int) < 40 := by omega
      have hdw : IntKind.i64.wrap ((d : Int) + 1) = (d : Int) + 1 := IntWalk.i64_in _ (by omega)
      have HW : Hid (∀ w6, BR w w6 rb S m2 0 g N t4 (.slice none 0 0) q → Calls Try.prog 28 #[.pointer (some ⟨rb, 0, none⟩), .bool true, .int .i64 ((d : Int) + 1), .bool q] w6 (WordR w6 rb S (d + 1) (wordC q (d + 1) (S.data.toList.drop m2)))) := fun w6 h6 => by
        have := ih (S.size - m2) (by omega) w6 rb m2 S 2 q (d + 1) true rfl (.inr ⟨by omega, rfl, rfl⟩) (by omega) h6.rr hm2S hS
        rw [show ((d + 1 : Nat) : Int) = (d : Int) + 1 from by omega] at this
        exact this
      have HN40 := Lib.hid hd40
      clear hd40
      have hEd : EAt (d + 1) + 100 ≤ EAt d := by unfold EAt; omega
      have hEd2 : EAt d ≤ 100000 := by unfold EAt; omega
      have HWK : Hid (∀ w6 w', BR w w6 rb S m2 0 g N t4 (.slice none 0 0) q → ∀ v l0, Wd w' (fun k => w6.heap.size ≤ k) v l0 → Wd (w'.setCell ⟨g, 4, none⟩ v) (fun k => w.heap.size ≤ k) v l0) := fun w6 w' h6 v l0 h => h.keep fun k cur hk hc => ⟨Nat.le_trans h6.only.size hk, (heap_other (by have := (Array.getElem?_eq_some_iff.1 h6.box).1; omega) _ _).trans hc⟩
      cases hW : wordC q (d + 1) (S.data.toList.drop m2) with
      | error y =>
        have HBF : Hid (braceF (wordC q (d + 1)) q d s = .error y) := HBW0.out _ hW HN40.out
        have HWE : Hid (∀ w6, BR w w6 rb S m2 0 g N t4 (.slice none 0 0) q → Calls Try.prog 28 #[.pointer (some ⟨rb, 0, none⟩), .bool true, .int .i64 ((d : Int) + 1), .bool q] w6 fun e w' => ∃ va n c a' l0, e = .returned (.slice va n c) ∧ y ≠ 0 ∧ a' ≤ EAt (d + 1) + 50 ∧ BR w w' rb S a' y g N t4 (.slice none 0 0) q ∧ Wd (w'.setCell ⟨g, 4, none⟩ (.slice va n c)) (fun k => w.heap.size ≤ k) (.slice va n c) l0) := fun w6 h6 => (HW.out w6 h6).mono (by
          rintro e w' ⟨va, n, c, a', x, l0, rfl, h1, h2, h3, h4⟩
          rw [hW] at h4
          obtain ⟨rfl, h5, h7⟩ := h4
          exact ⟨va, n, c, a', l0, rfl, h5, h7, h6.turn h1 h2, HWK.out w6 w' h6 _ _ h3⟩)
        clear hW
        go_wp2_with (go_at_call 28
                     (with_reducible refine (HWE.out _ HBE.out).mono ?_)
                     rintro e w11 ⟨va1, n1, c1', a1, l1, rfl, hy0, ha1, hb, hwd⟩
                     have HBY := Lib.hid hb
                     have HY0 := Lib.hid hy0
                     have cW : w11.cell? ⟨g, 4, none⟩ = some (.slice none 0 0) := cell_of hb.box 4
                     have fW := free_of hb.box 4
                     have HBW := Lib.hid (hb.setW (.slice va1 n1 c1'))
                     have HWY := Lib.hid hwd
                     clear hb hwd hy0
                     simp only [])
        obtain ⟨c2, hc2⟩ : ∃ c2, seeF S a1 = c2 := ⟨_, rfl⟩
        have HSE2 : Hid (∀ w5, BR w w5 rb S a1 y g N t4 (.slice va1 n1 c1') q → Calls Try.prog 26 #[.pointer (some ⟨rb, 0, none⟩), .int .i64 0] w5 fun e w' => e = .returned (.int .u8 c2.toNat) ∧ Below w5.heap.size w5 w') := fun w5 h5 => see_seq h5.rr 0 0 a1 rfl rfl (by omega) (by omega) hc2
        have hc125 := byte_eq c2 125
        rw [show ((125 : UInt8).toNat : Int) = 125 from rfl] at hc125
        have hmw3 : IntKind.i64.wrap ((a1 : Int) + 1) = (a1 : Int) + 1 := IntWalk.i64_in _ (by omega)
        by_cases e125 : c2 = 125
        · have z125 : ((c2.toNat : Int) == 125) = true := by rw [hc125, e125]; rfl
          have n125 : (c2.toNat : Int) = 125 := by rw [e125]; rfl
          clear hc125 e125
          go_wp2_with (first
            | (go_at_call 26
               (with_reducible refine (HSE2.out _ HBW.out).mono ?_)
               rintro e w9 ⟨rfl, hu⟩
               have HBC := Lib.hid (HBW.out.under hu)
               have HWC := Lib.hid (HWY.out.under hu)
               clear hu
               have q19 : w9.cell? ⟨rb, 1, none⟩ = some (.int .i64 a1) := cell_of HBC.out.rr 1
               have f19 := free_of HBC.out.rr 1
               have HBD := Lib.hid (HBC.out.setI (a1 + 1) (ai := (a1 : Int) + 1) (by omega))
               have p0 : (w9.setCell ⟨rb, 1, none⟩ (.int .i64 ((a1 : Int) + 1))).cell? ⟨g, 0, none⟩ = some (.int .i64 3) := cell_of HBD.out.box 0
               have p1 : (w9.setCell ⟨rb, 1, none⟩ (.int .i64 ((a1 : Int) + 1))).cell? ⟨g, 1, none⟩ = some (.string ⟨#[]⟩) := cell_of HBD.out.box 1
               have p2 : (w9.setCell ⟨rb, 1, none⟩ (.int .i64 ((a1 : Int) + 1))).cell? ⟨g, 2, none⟩ = some (.string N) := cell_of HBD.out.box 2
               have p3 : (w9.setCell ⟨rb, 1, none⟩ (.int .i64 ((a1 : Int) + 1))).cell? ⟨g, 3, none⟩ = some (.string t4) := cell_of HBD.out.box 3
               have p4 : (w9.setCell ⟨rb, 1, none⟩ (.int .i64 ((a1 : Int) + 1))).cell? ⟨g, 4, none⟩ = some (.slice va1 n1 c1') := cell_of HBD.out.box 4
               have p5 : (w9.setCell ⟨rb, 1, none⟩ (.int .i64 ((a1 : Int) + 1))).cell? ⟨g, 5, none⟩ = some (.bool q) := cell_of HBD.out.box 5
               have HWD2 : Hid (Wd (w9.setCell ⟨rb, 1, none⟩ (.int .i64 ((a1 : Int) + 1))) (fun k => w.heap.size ≤ k) (.slice va1 n1 c1') l1) := HWC.out.keep fun k cur hk hc => ⟨hk, (heap_other (cells_ne hc HBC.out.rr (by decide)) _ _).trans hc⟩
               obtain ⟨a8, n8, c8, w8, L8, r8, hr8⟩ := HBD.out.finish H0.out hZ HWD2.out
               have HR8 := Lib.hid hr8
               rw [show (w9.setCell ⟨rb, 1, none⟩ (.int .i64 ((a1 : Int) + 1))).heap.size = w9.heap.size by simp] at r8
               clear hr8
               simp only [])
            | (at_builtin; refine wpList_run_append _ rfl _ _ 32 32 rfl _ _ rfl rfl r8 ?_))
          exact HDERR.out _ _ _ _ _ _ _ _ _ _ HR8.out (by omega) HY0.out HBF.out
        · have z125 : ((c2.toNat : Int) == 125) = false := by rw [hc125]; exact beq_eq_false_iff_ne.2 e125
          have n125 : ¬ ((c2.toNat : Int) = 125) := fun e => by rw [e] at z125; exact absurd z125 (by decide)
          clear hc125 e125
          go_wp2_with (first
            | (go_at_call 26
               (with_reducible refine (HSE2.out _ HBW.out).mono ?_)
               rintro e w9 ⟨rfl, hu⟩
               have HBC := Lib.hid (HBW.out.under hu)
               clear hu
               simp only [])
            | (go_at_call 39
               refine (HEX.out _ _ _ _ _ _ HBC.out (by omega) HY0.out HBF.out).mono ?_
               rintro e w7' ⟨rfl, h6⟩
               have H6 := Lib.hid h6
               clear h6
               simp only []))
          exact H6.out
      | ok z =>
        obtain ⟨l1, t1⟩ := z
        have hlen := wordC_len hW
        rw [List.length_drop, dl] at hlen
        have HBW1 := Lib.hid (HBW0.out _ hW HN40.out)
        have HWE : Hid (∀ w6, BR w w6 rb S m2 0 g N t4 (.slice none 0 0) q → Calls Try.prog 28 #[.pointer (some ⟨rb, 0, none⟩), .bool true, .int .i64 ((d : Int) + 1), .bool q] w6 fun e w' => ∃ va n c a', e = .returned (.slice va n c) ∧ a' ≤ S.size ∧ m2 ≤ a' ∧ S.data.toList.drop a' = t1 ∧ BR w w' rb S a' 0 g N t4 (.slice none 0 0) q ∧ Wd (w'.setCell ⟨g, 4, none⟩ (.slice va n c)) (fun k => w.heap.size ≤ k) (.slice va n c) l1) := fun w6 h6 => (HW.out w6 h6).mono (by
          rintro e w' ⟨va, n, c, a', x, l0, rfl, h1, h2, h3, h4⟩
          rw [hW] at h4
          obtain ⟨rfl, h5, h7, h8⟩ := h4
          subst h8
          refine ⟨va, n, c, a', rfl, h5, ?_, h7, h6.turn h1 h2, HWK.out w6 w' h6 _ _ h3⟩
          have := congrArg List.length h7
          rw [List.length_drop, dl] at this
          omega)
        clear hW hlen
        go_wp2_with (go_at_call 28
                     (with_reducible refine (HWE.out _ HBE.out).mono ?_)
                     rintro e w11 ⟨va1, n1, c1', a1, rfl, ha1, hma1, hdr1, hb, hwd⟩
                     have HBY := Lib.hid hb
                     have HDR1 := Lib.hid hdr1
                     have cW : w11.cell? ⟨g, 4, none⟩ = some (.slice none 0 0) := cell_of hb.box 4
                     have fW := free_of hb.box 4
                     have HBW := Lib.hid (hb.setW (.slice va1 n1 c1'))
                     have HWY := Lib.hid hwd
                     clear hb hwd hdr1
                     simp only [])
        obtain ⟨c2, hc2⟩ : ∃ c2, seeF S a1 = c2 := ⟨_, rfl⟩
        have HSE2 : Hid (∀ w5, BR w w5 rb S a1 0 g N t4 (.slice va1 n1 c1') q → Calls Try.prog 26 #[.pointer (some ⟨rb, 0, none⟩), .int .i64 0] w5 fun e w' => e = .returned (.int .u8 c2.toNat) ∧ Below w5.heap.size w5 w') := fun w5 h5 => see_seq h5.rr 0 0 a1 rfl rfl (by omega) (by omega) hc2
        have hc125 := byte_eq c2 125
        rw [show ((125 : UInt8).toNat : Int) = 125 from rfl] at hc125
        have hmw : IntKind.i64.wrap ((a1 : Int) + 1) = (a1 : Int) + 1 := IntWalk.i64_in _ (by omega)
        by_cases e125 : c2 = 125
        · have z125 : ((c2.toNat : Int) == 125) = true := by rw [hc125, e125]; rfl
          have n125 : (c2.toNat : Int) = 125 := by rw [e125]; rfl
          have hlt2 : a1 < S.size := by
            by_cases h : a1 < S.size
            · exact h
            · rw [seeF_off (by omega)] at hc2
              rw [← hc2] at e125; exact absurd e125 (by decide)
          have HBF : Hid (braceF (wordC q (d + 1)) q d s = .ok (.mk 3 [] N.data.toList t4.data.toList l1 q, S.data.toList.drop (a1 + 1))) := by
            have hat := data_get S a1 hlt2
            have hdr := at_drop hat
            rw [← seeF_head hdr, hc2, e125] at hdr
            rw [show braceF (wordC q (d + 1)) q d s = _ from HBW1.out, ← HDR1.out, hdr]
            exact if_pos rfl
          clear hc125 e125
          go_wp2_with (first
            | (go_at_call 26
               (with_reducible refine (HSE2.out _ HBW.out).mono ?_)
               rintro e w9 ⟨rfl, hu⟩
               have HBC := Lib.hid (HBW.out.under hu)
               have HWC := Lib.hid (HWY.out.under hu)
               clear hu
               have q19 : w9.cell? ⟨rb, 1, none⟩ = some (.int .i64 a1) := cell_of HBC.out.rr 1
               have f19 := free_of HBC.out.rr 1
               have HBD := Lib.hid (HBC.out.setI (a1 + 1) (ai := (a1 : Int) + 1) (by omega))
               have p0 : (w9.setCell ⟨rb, 1, none⟩ (.int .i64 ((a1 : Int) + 1))).cell? ⟨g, 0, none⟩ = some (.int .i64 3) := cell_of HBD.out.box 0
               have p1 : (w9.setCell ⟨rb, 1, none⟩ (.int .i64 ((a1 : Int) + 1))).cell? ⟨g, 1, none⟩ = some (.string ⟨#[]⟩) := cell_of HBD.out.box 1
               have p2 : (w9.setCell ⟨rb, 1, none⟩ (.int .i64 ((a1 : Int) + 1))).cell? ⟨g, 2, none⟩ = some (.string N) := cell_of HBD.out.box 2
               have p3 : (w9.setCell ⟨rb, 1, none⟩ (.int .i64 ((a1 : Int) + 1))).cell? ⟨g, 3, none⟩ = some (.string t4) := cell_of HBD.out.box 3
               have p4 : (w9.setCell ⟨rb, 1, none⟩ (.int .i64 ((a1 : Int) + 1))).cell? ⟨g, 4, none⟩ = some ((.slice va1 n1 c1')) := cell_of HBD.out.box 4
               have p5 : (w9.setCell ⟨rb, 1, none⟩ (.int .i64 ((a1 : Int) + 1))).cell? ⟨g, 5, none⟩ = some (.bool q) := cell_of HBD.out.box 5
               have HWD2 : Hid (Wd (w9.setCell ⟨rb, 1, none⟩ (.int .i64 ((a1 : Int) + 1))) (fun k => w.heap.size ≤ k) ((.slice va1 n1 c1')) l1) := HWC.out.keep fun k cur hk hc => ⟨hk, (heap_other (cells_ne hc HBC.out.rr (by decide)) _ _).trans hc⟩
               obtain ⟨a8, n8, c8, w8, L8, r8, hr8⟩ := HBD.out.finish H0.out hZ HWD2.out
               have HR8 := Lib.hid hr8
               rw [show (w9.setCell ⟨rb, 1, none⟩ (.int .i64 ((a1 : Int) + 1))).heap.size = w9.heap.size by simp] at r8
               clear hr8
               simp only [])
            | (at_builtin; refine wpList_run_append _ rfl _ _ 32 32 rfl _ _ rfl rfl r8 ?_))
          exact HDONE.out _ _ _ _ _ _ _ _ _ _ HR8.out (by omega) rfl (by omega) HBF.out
        · have z125 : ((c2.toNat : Int) == 125) = false := by rw [hc125]; exact beq_eq_false_iff_ne.2 e125
          have n125 : ¬ ((c2.toNat : Int) = 125) := fun e => by rw [e] at z125; exact absurd z125 (by decide)
          have HBF : Hid (braceF (wordC q (d + 1)) q d s = .error 2) := by
            have hrest : ∀ r, S.data.toList.drop a1 = 125 :: r → False := fun r hr => e125 (by rw [← hc2]; exact seeF_head hr)
            rw [show braceF (wordC q (d + 1)) q d s = _ from HBW1.out, ← HDR1.out]
            cases hr : S.data.toList.drop a1 with
            | nil => rfl
            | cons x r =>
              exact if_neg (fun e => hrest r (by rw [hr, e]))
          clear hc125 e125
          go_wp2_with (first
            | (go_at_call 26
               (with_reducible refine (HSE2.out _ HBW.out).mono ?_)
               rintro e w9 ⟨rfl, hu⟩
               have HBC := Lib.hid (HBW.out.under hu)
               clear hu
               simp only [])
            | (go_at_call 39
               refine (HE2.out _ _ _ _ _ HBC.out (by omega) HBF.out).mono ?_
               rintro e w7 ⟨rfl, h6⟩
               have H6 := Lib.hid h6
               clear h6
               simp only []))
          exact H6.out
end Go.Proofs.Ytafbheplaheohaa
