import Derived.Test.YtcmjpkfinbakkaaDoorXL
import Derived.BigQuiet
import Derived.Deep.QuietTactic
import Derived.Test.YtcmjpkfinbakkaaDoorVL
import Derived.Test.YtcmjpkfinbakkaaDoorRows
import Derived.Deep.Slices
namespace Go.Proofs.YtcmjpkfinbakkaaDoor
set_option maxRecDepth 100000
open Go.RowKit Go.Maps Go.ChangeMaps
set_option linter.unusedVariables false

set_option maxHeartbeats 1000000 in
theorem num17 (n : Int) (w : World) : Calls Tryd.prog 17 #[.int .i64 n] w fun e w' => e = .returned (.int .i64 n) ∧ w' = w := by
  go_enter Tryd.func17, Tryd.ntmps17
  go_wp2_with fail
  go_ret
  exact ⟨rfl, rfl⟩
/-- The tree of CheckNots. -/
def Tn1 : Tr := setF newT [[97]] (some ⟨true, [120], 1⟩)
def Tn : Tr := setF Tn1 [[100]] (some ⟨false, [], 2⟩)
theorem newT_short : ∀ L n, newT L = some n → n.data.length ≤ 1000000 := by
  intro L n h
  unfold newT leafT at h
  split at h
  · injection h with h; subst h; simp
  · cases h
theorem Tn_short : ∀ L n, Tn L = some n → n.data.length ≤ 1000000 := by
  intro L n h
  unfold Tn Tn1 setF at h
  split at h
  · injection h with h; subst h; simp
  · split at h
    · injection h with h; subst h; simp
    · exact newT_short L n h
theorem lay_a1 (w : World) {B f : Nat} (hB : B ≤ w.heap.size) (h : Fs w B 0 f ⟨3, 10, 0, 0, 0⟩ newT (fun j => B ≤ j ∧ j < w.heap.size)) :
    Calls Tryd.prog 8 #[.pointer (some ⟨f, 0, none⟩), .string ⟨#[47, 97]⟩, .slice (some ⟨w.heap.size, 0, none⟩) 1 1, .bool false] (w.alloc (.cells #[.int .u8 120] 5 (1, 2))) fun e w' => e = .returned (.int .i64 0) ∧ Fs w' B 1 f ⟨3, 10, 1, 1, 1⟩ Tn1 (fun j => B ≤ j ∧ j < w'.heap.size) ∧ Below B w w' := by
  have hb2 : Below w.heap.size w (w.alloc (.cells #[.int .u8 120] 5 (1, 2))) := (Below.refl _ _).alloc (Nat.le_refl _) _
  have hF2 := h.below hb2
  have hbin : Bin (w.alloc (.cells #[.int .u8 120] 5 (1, 2))) (.slice (some ⟨w.heap.size, 0, none⟩) ([120] : Bz).length 1) [120] := by
    refine ⟨_, _, rfl, fun i hi => ?_⟩
    have hi0 : i = 0 := by simp at hi; omega
    subst hi0
    exact ⟨w.heap.size, 0, rfl, by simp, World.cell?_alloc_mark w #[.int .u8 120] 5 (1, 2) 0⟩
  have hE : findE newT ⟨#[47, 97]⟩ = 0 := path_a.2.1 _
  have hn : newT (findL ⟨#[47, 97]⟩) = none := by rw [path_a.1]; rfl
  have HW := Write_new _ ⟨#[47, 97]⟩ false hF2 path_a.2.2 ⟨by decide, by decide, by decide, by decide, by decide⟩ (by decide) (Nat.le_trans hB hb2.size) hE hn [120] _ _ hbin (fun a ha hF => by cases ha; exact Nat.lt_irrefl _ hF.2) (by decide) (by decide) (by decide)
  rw [path_a.1] at HW
  refine HW.mono fun e w' hm => ?_
  obtain ⟨h1, h2, h3⟩ := hm
  refine ⟨h1, h2.cap.imp (fun j hj => ⟨?_, hj.2⟩), (hb2.mono hB |>.trans (h3.below (fun k hk => hk.1) (Nat.le_trans hB hb2.size)))⟩
  rcases hj.1 with h | h
  · exact h.1
  · exact Nat.le_trans (Nat.le_trans hB hb2.size) h
theorem lay_d1 (w : World) {B f : Nat} (hB : B ≤ w.heap.size) (h : Fs w B 1 f ⟨3, 10, 1, 1, 1⟩ Tn1 (fun j => B ≤ j ∧ j < w.heap.size)) :
    Calls Tryd.prog 7 #[.pointer (some ⟨f, 0, none⟩), .string ⟨#[47, 100]⟩] w fun e w' => e = .returned (.int .i64 0) ∧ Fs w' B 2 f ⟨3, 10, 2, 1, 2⟩ Tn (fun j => B ≤ j ∧ j < w'.heap.size) ∧ Below B w w' :=
  (Mkdir_any w _ h path_d'.2.2 ⟨by decide, by decide, by decide, by decide, by decide⟩ (by decide) hB 0 _ _ (by
    show mkdirF Tn1 ⟨3, 10, 1, 1, 1⟩ ⟨#[47, 100]⟩ = _
    unfold mkdirF
    rw [if_neg (by rw [path_d'.2.1]; decide +kernel), path_d'.1, if_neg (by decide +kernel), if_neg (by decide)]
    rfl)).mono fun e w' hm => mut_sx hB hm
theorem two_at (w : World) (x y : ByteArray) : ArgsAt (w.alloc (.cells #[.string x, .string y] 9)) w.heap.size 0 2 [x, y] := by
  refine ⟨by show w.heap.size < (w.heap.push _).size; rw [Array.size_push]; omega, by simp, fun i hi => ?_⟩
  match i, hi with
  | 0, _ => simp
  | 1, _ => simp
theorem two_below (w : World) (x y : ByteArray) : Below w.heap.size w (w.alloc (.cells #[.string x, .string y] 9)) := (Below.refl _ _).alloc (Nat.le_refl _) _
theorem emp : (⟨#[]⟩ : ByteArray).toList.isEmpty = true := by rw [Lib.toList_data]; rfl
theorem test2_z (f : Nat) (w : World) (hH : Here w f newT) (b1 : ByteArray) (v : Bool) (hU : ∀ w, Calls Tryd.prog 29 #[plc f, .string b1, .string ⟨#[]⟩] w fun e w' => e = .returned (.tuple #[.bool v, .int .i64 0]) ∧ Below w.heap.size w w') :
    Calls Tryd.prog 16 #[.pointer (some ⟨f, 0, none⟩), .string ⟨#[47]⟩, .slice (some ⟨w.heap.size, 0, none⟩) 2 2] (w.alloc (.cells #[.string b1, .string ⟨#[]⟩] 9)) fun e w' => e = .returned (.tuple #[.bool v, .int .i64 0]) ∧ Below w.heap.size w w' := by
  have hA := two_at w b1 ⟨#[]⟩
  have hb := two_below w b1 ⟨#[]⟩
  refine (test2 (T := newT) b1 ⟨#[]⟩ w.heap.size 0 2 v 0 _ hA.lt (by simp) (by simp) (hH.below hb) (fun w _ => hU w)).mono ?_
  rintro e w' ⟨h1, h2⟩
  exact ⟨h1, hb.trans (h2.mono hb.size)⟩
set_option maxHeartbeats 2000000 in
theorem alive15 (w : World) : Calls Tryd.prog 15 #[] w fun e w' => e = .returned (.bool true) ∧ Below w.heap.size w w' := by
  have HNEW := Lib.hid (fun w => New_small 2 2 (by decide) (by decide) (by decide) (by decide) w)
  have HZ := Lib.hid (fun f w h => test2_z f w h ⟨#[45, 122]⟩ true (fun w => by have h := unary_z (f := f) ⟨#[]⟩ w; rw [emp] at h; exact h))
  have HN := Lib.hid (fun f w h => test2_z f w h ⟨#[45, 110]⟩ false (fun w => by have h := unary_n (f := f) ⟨#[]⟩ w; rw [emp] at h; exact h))
  have HNUM := Lib.hid num17
  go_enter Tryd.func15, Tryd.ntmps15
  go_wp2_with (first
    | (go_at_call 6; refine (HNEW.out _).mono ?_; rintro e w1 ⟨f, rfl, h1, h1b⟩; have H1 := Lib.hid h1b; have HH1 : Hid (Here w1 f newT) := ⟨⟨_, _, _, _, h1⟩, newT_short⟩; clear h1 h1b; simp only [])
    | (go_at_call 16; ((with_reducible refine (HZ.out _ _ HH1.out).mono ?_); rintro e w2 ⟨rfl, h2⟩; have H2 := Lib.hid (H1.out.trans (h2.mono H1.out.size)); have HH2 := Lib.hid (HH1.out.below h2); clear h2; simp only []))
    | (go_at_call 16; ((with_reducible refine (HN.out _ _ HH2.out).mono ?_); rintro e w3 ⟨rfl, h3⟩; have H3 := Lib.hid (H2.out.trans (h3.mono H2.out.size)); clear h3; simp only []))
    | (go_at_call 17; refine (HNUM.out _ _).mono ?_; rintro e w4 ⟨rfl, h4⟩; obtain rfl := h4.symm; simp only []))
  go_ret
  exact ⟨rfl, H3.out⟩
end Go.Proofs.YtcmjpkfinbakkaaDoor

namespace Go.Proofs.YtcmjpkfinbakkaaDoor
set_option maxRecDepth 100000
open Go.RowKit Go.Maps Go.ChangeMaps
set_option linter.unusedVariables false

theorem wp_genN {c : Code} {Q : Exit → Act → World → Prop} {a : Act} {W : World} (R : World → Prop) (h1 : R W) (h : ∀ w5, R w5 → Code.wp Tryd.prog c Q a w5) : Code.wp Tryd.prog c Q a W := h W h1
set_option maxHeartbeats 8000000 in
theorem nots_out (L : List ByteArray) (a : Option Addr) (c : Nat) (w : World) (h : L.length < 1 ∨ 3 < L.length) :
    Calls Tryd.prog 4 #[.slice a L.length c] w fun e w' => e = .returned (.bool true) ∧ Below w.heap.size w w' := by
  have HA := Lib.hid (alive15 w)
  by_cases h1 : L.length < 1
  · have i1 : (L.length : Int) < 1 := by omega
    clear h
    go_enter Tryd.func4, Tryd.ntmps4
    go_wp2_with (go_at_call 15; refine HA.out.mono ?_; rintro e w1 ⟨rfl, h1⟩; have H1 := Lib.hid h1; clear h1; simp only [])
    go_ret
    exact ⟨rfl, H1.out⟩
  · have i1 : ¬ (L.length : Int) < 1 := by omega
    have i2 : (3 : Int) < (L.length : Int) := by omega
    clear h h1
    go_enter Tryd.func4, Tryd.ntmps4
    go_wp2_with (go_at_call 15; refine HA.out.mono ?_; rintro e w1 ⟨rfl, h1⟩; have H1 := Lib.hid h1; clear h1; simp only [])
    go_ret
    exact ⟨rfl, H1.out⟩
set_option pp.maxSteps 6000 in
set_option maxHeartbeats 8000000 in
theorem nots_odd (L : List ByteArray) (g off c : Nat) (w : World) (h1 : 1 ≤ L.length) (h3 : L.length ≤ 3) (h2 : L.length ≠ 2) (hs : ∀ x ∈ L, x.size ≤ 1100000) (hA : ArgsAt w g off c L) :
    Calls Tryd.prog 4 #[.slice (some ⟨g, off, none⟩) L.length c] w fun e w' => e = .returned (.bool true) ∧ Below w.heap.size w w' := by
  have HA := Lib.hid (alive15 w)
  have HNEW := Lib.hid (fun w => New_small 3 10 (by decide) (by decide) (by decide) (by decide) w)
  have HTA : Hid (∀ f, ∃ v n v2 n2, Hid (Tells3 f Tn L v n) ∧ Hid (∀ w g off c, Here w f Tn → ArgsAt w g off c (bang :: L) → Calls Tryd.prog 16 #[.pointer (some ⟨f, 0, none⟩), .string ⟨#[47]⟩, .slice (some ⟨g, off, none⟩) (L.length + 1) c] w fun e w' => e = .returned (.tuple #[.bool v2, .int .i64 n2]) ∧ Below w.heap.size w w') ∧ n2 = n ∧ v2 = (n == 0 && !v)) := fun f => by
    obtain ⟨v, n, v2, n2, k1, k2, k3⟩ := tells_all (f := f) (T := Tn) L h1 h3 hs
    rcases k3 with ⟨a, b, e, _⟩ | ⟨e1, e2⟩
    · rw [e] at h2; exact absurd rfl h2
    · exact ⟨v, n, v2, n2, k1, k2, e1, e2⟩
  have HAPP : Hid (∀ w, ArgsAt w g off c L → ∃ g' c' w', (Builtin.append_ #[29, 29] 29 #[.slice (some ⟨w.heap.size, 0, none⟩) 1 1, .slice (some ⟨g, off, none⟩) L.length c]).run Tryd.prog (w.alloc (.cells #[.string ⟨#[33]⟩] 9)) = .ok (.slice (some ⟨g', 0, none⟩) (L.length + 1) c') w' ∧ ArgsAt w' g' 0 c' (bang :: L) ∧ Below w.heap.size w w') := fun w h => app_bang g off c L w h h1 h3
  have HARG := Lib.hid hA
  have HNUM := Lib.hid num17
  have i1 : ¬ (L.length : Int) < 1 := by omega
  have i3 : ¬ (3 : Int) < (L.length : Int) := by omega
  have i2 : ((L.length : Int) == 2) = false := by rw [beq_eq_false_iff_ne]; omega
  clear hA h1 h2 h3 hs
  go_enter Tryd.func4, Tryd.ntmps4
  go_wp2_with (first
    | (go_at_call 15; refine HA.out.mono ?_; rintro e w0 ⟨rfl, h0⟩; have H0 := Lib.hid h0; clear h0; simp only [])
    | (go_at_call 6; refine (HNEW.out _).mono ?_; rintro e w1 ⟨f, rfl, h1, h1b⟩; have HL0 := Lib.hid h1b.size; have HB1 := Lib.hid (H0.out.trans (h1b.mono H0.out.size)); have HM := Lib.hid (lay_a1 w1 h1b.size h1); have hcv := Lib.run_convert_bytes_const w1 28 5 #[.int .u8 120] 1 1 Tryd.underlying28 Tryd.underlying5; clear h1 h1b; simp only [])
    | (go_at_call 8; refine HM.out.mono ?_; rintro e w2 ⟨rfl, h2, h2b⟩; have HB2 := Lib.hid (HB1.out.trans (h2b.mono H0.out.size)); have HL2 := Lib.hid (Nat.le_trans HL0.out h2b.size); have HD := Lib.hid (lay_d1 w2 (Nat.le_trans HL0.out h2b.size) h2); clear h2 h2b hcv; simp only [])
    | (go_at_call 7; refine HD.out.mono ?_; rintro e w3 ⟨rfl, h3, h3b⟩; have HB3 := Lib.hid (HB2.out.trans (h3b.mono H0.out.size)); have HH3 : Hid (Here w3 f Tn) := ⟨⟨_, _, _, _, h3⟩, Tn_short⟩; have HA3 := Lib.hid (HARG.out.below HB3.out); obtain ⟨v, n, v2, n2, HT1, HT2, hn2, hv2⟩ := HTA.out f; clear h3 h3b; simp only [])
    | (go_at_call 16; ((with_reducible refine (HT1.out _ _ _ _ HH3.out HA3.out).mono ?_); rintro e w4 ⟨rfl, h4⟩; have HB4 := Lib.hid (HB3.out.trans (h4.mono HB3.out.size)); have HH4 := Lib.hid (HH3.out.below h4); have HA4 := Lib.hid (HA3.out.below h4); obtain ⟨g2, c2, w5, hrun, hA5, hB5⟩ := HAPP.out _ HA4.out; have HA5 := Lib.hid hA5; have HB5 := Lib.hid (HB4.out.trans (hB5.mono HB4.out.size)); have HH5 := Lib.hid (HH4.out.below hB5); clear h4 hA5 hB5; simp only []))
    | (at_builtin; refine wpList_run_append _ rfl _ _ 29 29 rfl _ _ rfl rfl hrun ?_)
    | (go_at_call 16; ((with_reducible refine (HT2.out _ _ _ _ HH5.out HA5.out).mono ?_); rintro e w6 ⟨rfl, h6⟩; have HB6 := Lib.hid (HB5.out.trans (h6.mono HB5.out.size)); clear h6 hrun; simp only [])))
  have HZ := HB6
  subst hn2
  have hnn : (n2 == n2) = true := by simp
  by_cases h0 : n2 = 0
  · subst h0
    subst hv2
    cases v
    all_goals
      try simp only [beq_self_eq_true, Bool.true_and, Bool.not_true, Bool.not_false] at *
      go_wp2_with (go_at_call 17; refine (HNUM.out _ _).mono ?_; rintro e w9 ⟨rfl, h9⟩; obtain rfl := h9.symm; simp only [])
      go_ret
      exact ⟨rfl, HZ.out⟩
  · have hne : (n2 != 0) = true := by simpa using h0
    go_wp2_with (go_at_call 17; refine (HNUM.out _ _).mono ?_; rintro e w9 ⟨rfl, h9⟩; obtain rfl := h9.symm; simp only [])
    go_ret
    exact ⟨rfl, HZ.out⟩
end Go.Proofs.YtcmjpkfinbakkaaDoor

namespace Go.Proofs.YtcmjpkfinbakkaaDoor
set_option maxRecDepth 100000
open Go.RowKit Go.Maps Go.ChangeMaps
set_option linter.unusedVariables false

/-- The signs lie in a fresh row. -/
def nineO : Obj := .cells #[.string ⟨#[61]⟩, .string ⟨#[33, 61]⟩, .string ⟨#[45, 101, 113]⟩, .string ⟨#[45, 110, 101]⟩, .string ⟨#[45, 108, 116]⟩, .string ⟨#[45, 108, 101]⟩, .string ⟨#[45, 103, 116]⟩, .string ⟨#[45, 103, 101]⟩, .string ⟨#[45, 110, 116]⟩] 9
theorem nine_at (w : World) (k : Nat) (hk : k < 9) : (w.alloc nineO).cell? ⟨w.heap.size, k, none⟩ = some (.string (Ck.nine.getD k ⟨#[]⟩)) := by
  unfold nineO
  match k, hk with
  | 0, _ => simp [Ck.nine]
  | 1, _ => simp [Ck.nine]
  | 2, _ => simp [Ck.nine]
  | 3, _ => simp [Ck.nine]
  | 4, _ => simp [Ck.nine]
  | 5, _ => simp [Ck.nine]
  | 6, _ => simp [Ck.nine]
  | 7, _ => simp [Ck.nine]
  | 8, _ => simp [Ck.nine]
theorem nine_mem {x : ByteArray} (h : ∀ j, j < 9 → x ≠ Ck.nine.getD j ⟨#[]⟩) : x ∉ Ck.nine := by
  intro hx
  obtain ⟨j, hj⟩ := List.mem_iff_getElem?.1 hx
  have hl : j < Ck.nine.length := (List.getElem?_eq_some_iff.1 hj).1
  exact h j hl (by rw [List.getD_eq_getElem?_getD, hj]; rfl)
set_option pp.maxSteps 6000 in
set_option maxHeartbeats 8000000 in
theorem nots_two (x y : ByteArray) (g off c : Nat) (w : World) (hs : ∀ z ∈ [x, y], z.size ≤ 1100000) (hA : ArgsAt w g off c [x, y]) :
    Calls Tryd.prog 4 #[.slice (some ⟨g, off, none⟩) 2 c] w fun e w' => e = .returned (.bool true) ∧ Below w.heap.size w w' := by
  have HA := Lib.hid (alive15 w)
  have HNEW := Lib.hid (fun w => New_small 3 10 (by decide) (by decide) (by decide) (by decide) w)
  have HTA : Hid (∀ f, ∃ v n v2 n2, Hid (∀ w g off c, Here w f Tn → ArgsAt w g off c [x, y] → Calls Tryd.prog 16 #[.pointer (some ⟨f, 0, none⟩), .string ⟨#[47]⟩, .slice (some ⟨g, off, none⟩) 2 c] w fun e w' => e = .returned (.tuple #[.bool v, .int .i64 n]) ∧ Below w.heap.size w w') ∧ Hid (∀ w g off c, Here w f Tn → ArgsAt w g off c [bang, x, y] → Calls Tryd.prog 16 #[.pointer (some ⟨f, 0, none⟩), .string ⟨#[47]⟩, .slice (some ⟨g, off, none⟩) 3 c] w fun e w' => e = .returned (.tuple #[.bool v2, .int .i64 n2]) ∧ Below w.heap.size w w') ∧ (x ∈ Ck.nine ∨ (n2 = n ∧ v2 = (n == 0 && !v)))) := fun f => by
    obtain ⟨v, n, v2, n2, k1, k2, k3⟩ := tells_all (f := f) (T := Tn) [x, y] (by simp) (by simp) hs
    refine ⟨v, n, v2, n2, k1, k2, ?_⟩
    rcases k3 with ⟨a, b, e, h⟩ | h
    · injection e with e1 _
      subst e1
      exact .inl h
    · exact .inr h
  have HAPP : Hid (∀ w, ArgsAt w g off c [x, y] → ∃ g' c' w', (Builtin.append_ #[29, 29] 29 #[.slice (some ⟨w.heap.size, 0, none⟩) 1 1, .slice (some ⟨g, off, none⟩) 2 c]).run Tryd.prog (w.alloc (.cells #[.string ⟨#[33]⟩] 9)) = .ok (.slice (some ⟨g', 0, none⟩) 3 c') w' ∧ ArgsAt w' g' 0 c' [bang, x, y] ∧ Below w.heap.size w w') := fun w h => app_bang g off c [x, y] w h (by simp) (by simp)
  have HARG := Lib.hid hA
  have HNUM := Lib.hid num17
  clear hA hs
  go_enter Tryd.func4, Tryd.ntmps4
  go_wp2_with (first
    | (go_at_call 15; refine HA.out.mono ?_; rintro e w0 ⟨rfl, h0⟩; have H0 := Lib.hid h0; clear h0; simp only [])
    | (go_at_call 6; refine (HNEW.out _).mono ?_; rintro e w1 ⟨f, rfl, h1, h1b⟩; have HL0 := Lib.hid h1b.size; have HB1 := Lib.hid (H0.out.trans (h1b.mono H0.out.size)); have HM := Lib.hid (lay_a1 w1 h1b.size h1); have hcv := Lib.run_convert_bytes_const w1 28 5 #[.int .u8 120] 1 1 Tryd.underlying28 Tryd.underlying5; clear h1 h1b; simp only [])
    | (go_at_call 8; refine HM.out.mono ?_; rintro e w2 ⟨rfl, h2, h2b⟩; have HB2 := Lib.hid (HB1.out.trans (h2b.mono H0.out.size)); have HL2 := Lib.hid (Nat.le_trans HL0.out h2b.size); have HD := Lib.hid (lay_d1 w2 (Nat.le_trans HL0.out h2b.size) h2); clear h2 h2b hcv; simp only [])
    | (go_at_call 7; refine HD.out.mono ?_; rintro e w3 ⟨rfl, h3, h3b⟩; have HB3 := Lib.hid (HB2.out.trans (h3b.mono H0.out.size)); have HH3 : Hid (Here w3 f Tn) := ⟨⟨_, _, _, _, h3⟩, Tn_short⟩; have HA3 := Lib.hid (HARG.out.below HB3.out); obtain ⟨v, n, v2, n2, HT1, HT2, hx⟩ := HTA.out f; have HX := Lib.hid hx; clear hx; clear h3 h3b; simp only [])
    | (go_at_call 16; ((with_reducible refine (HT1.out _ _ _ _ HH3.out HA3.out).mono ?_); rintro e w4 ⟨rfl, h4⟩; have HB4 := Lib.hid (HB3.out.trans (h4.mono HB3.out.size)); have HH4 := Lib.hid (HH3.out.below h4); have HA4 := Lib.hid (HA3.out.below h4); obtain ⟨g2, c2, w5, hrun, hA5, hB5⟩ := HAPP.out _ HA4.out; have HA5 := Lib.hid hA5; have HB5 := Lib.hid (HB4.out.trans (hB5.mono HB4.out.size)); have HH5 := Lib.hid (HH4.out.below hB5); clear h4 hA5 hB5; simp only []))
    | (at_builtin; refine wpList_run_append _ rfl _ _ 29 29 rfl _ _ rfl rfl hrun ?_)
    | (go_at_call 16; ((with_reducible refine (HT2.out _ _ _ _ HH5.out HA5.out).mono ?_); rintro e w6 ⟨rfl, h6⟩; have HB6 := Lib.hid (HB5.out.trans (h6.mono HB5.out.size)); clear h6 hrun; simp only [])))
  have hb9 : Below w6.heap.size w6 (w6.alloc nineO) := (Below.refl _ _).alloc (Nat.le_refl _) _
  have HA9 := Lib.hid ((HARG.out.below HB6.out).below hb9)
  have HN9 := Lib.hid (nine_at w6)
  have HB9 := Lib.hid (HB6.out.trans (hb9.mono HB6.out.size))
  have hz9 : w6.heap.size < (w6.alloc nineO).heap.size := by unfold nineO; simp
  clear hz9 hb9
  go_loopw [10] (fun i wr => ∃ k : Nat, i = .int .i64 k ∧ k ≤ 9 ∧ Hid (∀ j, j < k → x ≠ Ck.nine.getD j ⟨#[]⟩) ∧ Hid (Below (w6.alloc nineO).heap.size (w6.alloc nineO) wr)) (fun i _ => 9 - (intOf i).toNat)
  case atStart => exact ⟨0, rfl, by omega, fun j h => absurd h (Nat.not_lt_zero _), Below.refl _ _⟩
  case round =>
    obtain ⟨k, rfl, hk, HK, HB⟩ := hrel
    by_cases hlt : k < 9
    · have hltI : (k : Int) < 9 := by omega
      have b0 : (0 : Int) ≤ (k : Int) := by omega
      have q0 : wr.cell? ⟨g, off, none⟩ = some (.string x) := (HB.out.cell (p := ⟨g, off, none⟩) HA9.out.lt).trans (by simpa using HA9.out.cell 0 (by simp))
      have q1 : wr.cell? ⟨w6.heap.size, k, none⟩ = some (.string (Ck.nine.getD k ⟨#[]⟩)) := (HB.out.cell (p := ⟨w6.heap.size, k, none⟩) (by unfold nineO; simp)).trans (HN9.out k hlt)
      have hadd : (⟨w6.heap.size, 0, none⟩ : Addr).add k = ⟨w6.heap.size, k, none⟩ := by rw [addn, Nat.zero_add]
      obtain ⟨N, hN⟩ : ∃ N, Ck.nine.getD k ⟨#[]⟩ = N := ⟨_, rfl⟩
      rw [hN] at q1
      have HNN := Lib.hid hN
      clear hN
      have HBZ := Lib.hid (HB9.out.trans (HB.out.mono HB9.out.size))
      cases hxn : (x.toList == N.toList)
      · have HK2 : Hid (∀ j, j < k + 1 → x ≠ Ck.nine.getD j ⟨#[]⟩) := fun j hj e => by
          by_cases h : j < k
          · exact HK.out j h e
          · obtain rfl : j = k := by omega
            rw [HNN.out] at e
            subst e
            simp at hxn
        go_wp2_with fail
        go_quiet (fail)
        go_wp2_with fail
        exact ⟨⟨k + 1, by go_num, by omega, HK2, below_drewN HB.out _⟩, by simp [intOf]; omega⟩
      · go_wp2_with fail
        go_quiet (fail)
        go_wp2_with fail
        go_ret
        exact ⟨rfl, below_drewN HBZ.out _⟩
    · have hge : ¬ (k : Int) < 9 := by omega
      have hall : ∀ j, j < 9 → x ≠ Ck.nine.getD j ⟨#[]⟩ := fun j hj => HK.out j (by omega)
      have hno := nine_mem hall
      rcases HX.out with h | ⟨hn2, hv2⟩
      · exact absurd h hno
      · have HZ := Lib.hid (HB9.out.trans (HB.out.mono HB9.out.size))
        clear hall hno HX HK HB
        subst hn2
        have hnn : (n2 == n2) = true := by simp
        by_cases h0 : n2 = 0
        · subst h0
          subst hv2
          cases v
          all_goals
            try simp only [beq_self_eq_true, Bool.true_and, Bool.not_true, Bool.not_false] at *
            go_wp2_with (go_at_call 17; refine (HNUM.out _ _).mono ?_; rintro e w9 ⟨rfl, h9⟩; obtain rfl := h9.symm; simp only [])
            go_ret
            exact ⟨rfl, HZ.out⟩
        · have hne : (n2 != 0) = true := by simpa using h0
          go_wp2_with (go_at_call 17; refine (HNUM.out _ _).mono ?_; rintro e w9 ⟨rfl, h9⟩; obtain rfl := h9.symm; simp only [])
          go_ret
          exact ⟨rfl, HZ.out⟩
/-- CheckNots, of words that are not too long. -/
theorem checknots_walk (L : List ByteArray) (a : Option Addr) (c : Nat) (w : World) (hs : ∀ x ∈ L, x.size ≤ 1100000) (hA : 1 ≤ L.length → ∃ g off, a = some ⟨g, off, none⟩ ∧ ArgsAt w g off c L) :
    Calls Tryd.prog 4 #[.slice a L.length c] w fun e w' => e = .returned (.bool true) ∧ Below w.heap.size w w' := by
  by_cases h : L.length < 1 ∨ 3 < L.length
  · exact nots_out L a c w h
  · obtain ⟨g, off, rfl, hA2⟩ := hA (by omega)
    by_cases h2 : L.length = 2
    · match L, h2 with
      | [x, y], _ => exact nots_two x y g off c w hs hA2
    · exact nots_odd L g off c w (by omega) (by omega) h2 hs hA2
end Go.Proofs.YtcmjpkfinbakkaaDoor

namespace Go.Proofs.YtcmjpkfinbakkaaDoor
open Go.RowKit Go.ChangeShapes Go.WideShapes
set_option linter.unusedVariables false
set_option maxRecDepth 100000

theorem bulk_part {H : Type} {d : DataW H} {l : List (DataW H)} (h : d ∈ l) : Rows.uptoBulk d ≤ Rows.uptoBulkAll l := by
  induction l with
  | nil => cases h
  | cons x r ih =>
    simp only [Rows.uptoBulkAll]
    cases List.mem_cons.1 h with
    | inl e => subst e; omega
    | inr e => have := ih e; omega
theorem open_words {H : Type} {enc : TypeId × Value → H} {base : Nat} {W : World} {v : Value} {d : DataW H} {p : List MemPlace}
    (hv : Value.okWide Tryd.prog W .any base 29 v) (h : DataW.Trod enc Tryd.prog W 0 (fun _ => true) true 29 v d p) :
    ∃ (l : List ByteArray) (a : Option Addr) (c : Nat), v = .slice a l.length c ∧ (1 ≤ l.length → ∃ g off, a = some ⟨g, off, none⟩ ∧ ArgsAt W g off c l) ∧ ∀ x ∈ l, x.size ≤ Rows.uptoBulk d := by
  obtain ⟨a0, len, cap, rfl⟩ := okWide_slice Tryd.underlying29 hv
  obtain ⟨fuel, hf⟩ := h
  have hf2 : DataW.trod enc Tryd.prog W 0 (fun _ => true) true fuel 29 [.slice a0 len cap] = some (d, p) := hf
  have c9 : Tryd.prog.cellsOf 9 = 1 := by kernel_rfl
  have u9 : Tryd.prog.underlying 9 = some .string := by kernel_rfl
  rcases Go.Deep.open_slice Tryd.underlying29 hf2 with ⟨h0, _⟩ | ⟨a, len', cap', m, n, D, Pl, h0, hb, hl, hm, hmm, hd, hx⟩
  · simp at h0
    obtain ⟨rfl, rfl, rfl⟩ := h0
    exact ⟨[], none, 0, rfl, fun h => absurd h (by simp), by simp⟩
  · simp at h0
    obtain ⟨rfl, rfl, rfl⟩ := h0
    injection hd with hd1 hd2
    have each : ∀ i, i < len → ∃ q : ByteArray, W.cell? (a.add i) = some (.string q) ∧ q.size ≤ Rows.uptoBulk d := by
      intro i hi
      have him : i < m := by rw [hmm]; split <;> omega
      obtain ⟨cs', h1, h2⟩ := hx i him
      rw [c9, Nat.mul_one] at h1
      obtain ⟨_, hlen, hcell⟩ := World.cells?_some h1
      match cs', hlen with
      | [u], _ =>
        obtain ⟨s1, e1, e2, z1⟩ := DataW.trod_string u9 h2
        have := hcell 0 (by omega)
        simp at e1
        subst e1
        refine ⟨s1, by simpa [Addr.add] using this, ?_⟩
        have hDi : D i = .lit (.string s1.data.toList) := by
          have := congrArg Prod.fst e2
          simpa [Lib.toList_data] using this
        have hmem : D i ∈ (List.range len).map D := List.mem_map.2 ⟨i, List.mem_range.2 hi, rfl⟩
        have h3 := bulk_part hmem
        have h4 : Rows.uptoBulk (D i) = s1.size + 1 := by rw [hDi]; simp only [Rows.uptoBulk]; rw [show s1.data.toList.length = s1.size from Array.length_toList]
        rw [hd1]
        simp only [Rows.uptoBulk]
        omega
    obtain ⟨q, hq⟩ := Go.Deep.choose_lt each
    have hlen : ((List.range len).map q).length = len := by simp
    refine ⟨(List.range len).map q, some a, cap, by rw [hlen], fun h1 => ?_, fun x hx => ?_⟩
    · rw [hlen] at h1
      obtain ⟨hc0, _⟩ := hq 0 (by omega)
      have hb : a.block < W.heap.size := by
        have := World.block_lt_of_cell? W _ hc0
        revert this
        unfold Addr.add
        split <;> exact id
      have hs : a.spot = none := World.cell?_spot (a := a) (by simpa [Addr.add] using hc0)
      obtain ⟨b, off, sp⟩ := a
      simp only at hs
      subst hs
      refine ⟨b, off, rfl, hb, by rw [hlen]; exact hl, fun k hk => ?_⟩
      rw [hlen] at hk
      have h1 := (hq k hk).1
      rw [addn] at h1
      have e : ((List.range len).map q)[k]'(by rw [hlen]; exact hk) = q k := by simp
      rw [e]
      exact h1
    · obtain ⟨i, hi, rfl⟩ := List.mem_map.1 hx
      exact (hq i (List.mem_range.1 hi)).2
end Go.Proofs.YtcmjpkfinbakkaaDoor
