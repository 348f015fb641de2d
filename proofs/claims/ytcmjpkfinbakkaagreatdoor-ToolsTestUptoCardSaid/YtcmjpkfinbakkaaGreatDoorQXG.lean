import Derived.Test.YtcmjpkfinbakkaaGreatDoorWRA
import Derived.Test.YtcmjpkfinbakkaaGreatDoorQCE
import Derived.Deep.RegionHeld3
import Derived.Test.YtcmjpkfinbakkaaGreatDoorZ
namespace Go.Proofs.YtcmjpkfinbakkaaGreatDoor.Vf
set_option maxRecDepth 100000
open Go.RowKit Go.Maps Go.ChangeMaps
set_option linter.unusedVariables false

def kindA (T : Tr) (x : ByteArray) : Int := if (abs_ root1 x).2 = 0 then kindT T ⟨(abs_ root1 x).1.toArray⟩ else 0
def timeA (T : Tr) (x : ByteArray) : Int := if (abs_ root1 x).2 = 0 then timeT T ⟨(abs_ root1 x).1.toArray⟩ else 0
def filledT (T : Tr) (p : ByteArray) : Bool := if presE T p ≠ 0 then false else match T (findL p) with
  | none => false
  | some n => n.file && decide (0 < n.data.length)
def filledA (T : Tr) (x : ByteArray) : Bool := if (abs_ root1 x).2 = 0 then filledT T ⟨(abs_ root1 x).1.toArray⟩ else false
/-- What stays while Test runs. -/
structure Here (w : World) (f : Nat) (T : Tr) : Prop where
  fs : ∃ B N c F, Fs w B N f c T F
  short : ∀ L n, T L = some n → n.data.length ≤ 1000000
theorem Here.below {w w' : World} {f : Nat} {T : Tr} (h : Here w f T) (hb : Below w.heap.size w w') : Here w' f T := by
  obtain ⟨⟨B, N, c, F, h1⟩, h2⟩ := h
  exact ⟨⟨B, N, c, F, h1.below hb⟩, h2⟩
section
variable {f : Nat} {T : Tr}
def plc (f : Nat) : Value := .agg #[.pointer (some ⟨f, 0, none⟩), .string ⟨#[47]⟩]
set_option maxHeartbeats 4000000 in
theorem kind_any (x : ByteArray) (hx : x.size ≤ 1100000) (w : World) (hH : Here w f T) :
    Calls Tryz.prog 202 #[plc f, .string x] w fun e w' => e = .returned (.int .i64 (kindA T x)) ∧ Below w.heap.size w w' := by
  have HX := Lib.hid hH
  obtain ⟨⟨rs, rn⟩, hr⟩ : ∃ r, abs_ root1 x = r := ⟨_, rfl⟩
  have HA := Lib.hid (fun w => Bg.Abs_any ⟨#[47]⟩ x w (by decide) hx rs rn hr)
  obtain ⟨P, hP⟩ : ∃ P : ByteArray, ⟨rs.toArray⟩ = P := ⟨_, rfl⟩
  by_cases h0 : rn = 0
  · subst h0
    have hk : kindA T x = kindT T P := by unfold kindA; rw [hr, if_pos rfl, ← hP]
    have hp := abs_path x rs hr
    rw [hP] at hp
    have HK := Lib.hid (fun (w : World) (h : Here w f T) => by obtain ⟨⟨B, N, c, F, h1⟩, _⟩ := h; exact Kind_any (w := w) h1 hp)
    rw [hk]
    generalize kindT T P = K at HK ⊢
    rw [hP] at HA
    clear hH hr hP hk hp
    unfold plc
    go_enter Tryz.func202, Tryz.ntmps202
    go_wp2_with (first
      | (go_at_call 42; refine (HA.out _).mono ?_; rintro e w1 ⟨rfl, h1⟩; have H1 := Lib.hid (((Below.refl w.heap.size w).alloc (Nat.le_refl _) (.cells #[.pointer (some ⟨f, 0, none⟩), .string ⟨#[47]⟩] 186)).trans (h1.mono (by simp))); have q0 : w1.cell? ⟨w.heap.size, 0, none⟩ = some (.pointer (some ⟨f, 0, none⟩)) := (h1.cell (p := ⟨w.heap.size, 0, none⟩) (by simp)).trans (by simp); have HH := Lib.hid (HX.out.below H1.out); clear h1; simp only [])
      | (go_at_call 25; refine (HK.out _ HH.out).mono ?_; rintro e w2 ⟨rfl, h2⟩; have H2 := Lib.hid (H1.out.trans (h2.mono H1.out.size)); clear h2; simp only []))
    go_ret
    exact ⟨rfl, H2.out⟩
  · have hk : kindA T x = 0 := by unfold kindA; rw [hr, if_neg h0]
    rw [hk]
    have hne : (rn != 0) = true := by simpa using h0
    rw [hP] at HA
    clear hH hr hP hk h0
    unfold plc
    go_enter Tryz.func202, Tryz.ntmps202
    go_wp2_with (go_at_call 42; refine (HA.out _).mono ?_; rintro e w1 ⟨rfl, h1⟩; have H1 := Lib.hid (((Below.refl w.heap.size w).alloc (Nat.le_refl _) (.cells #[.pointer (some ⟨f, 0, none⟩), .string ⟨#[47]⟩] 186)).trans (h1.mono (by simp))); clear h1; simp only [])
    go_ret
    exact ⟨rfl, H1.out⟩
set_option maxHeartbeats 4000000 in
theorem time_any (x : ByteArray) (hx : x.size ≤ 1100000) (w : World) (hH : Here w f T) :
    Calls Tryz.prog 204 #[plc f, .string x] w fun e w' => e = .returned (.int .i64 (timeA T x)) ∧ Below w.heap.size w w' := by
  have HX := Lib.hid hH
  obtain ⟨⟨rs, rn⟩, hr⟩ : ∃ r, abs_ root1 x = r := ⟨_, rfl⟩
  have HA := Lib.hid (fun w => Bg.Abs_any ⟨#[47]⟩ x w (by decide) hx rs rn hr)
  obtain ⟨P, hP⟩ : ∃ P : ByteArray, ⟨rs.toArray⟩ = P := ⟨_, rfl⟩
  by_cases h0 : rn = 0
  · subst h0
    have hk : timeA T x = timeT T P := by unfold timeA; rw [hr, if_pos rfl, ← hP]
    have hp := abs_path x rs hr
    rw [hP] at hp
    have HK := Lib.hid (fun (w : World) (h : Here w f T) => by obtain ⟨⟨B, N, c, F, h1⟩, _⟩ := h; exact Time_any (w := w) h1 hp)
    rw [hk]
    generalize timeT T P = K at HK ⊢
    rw [hP] at HA
    clear hH hr hP hk hp
    unfold plc
    go_enter Tryz.func204, Tryz.ntmps204
    go_wp2_with (first
      | (go_at_call 42; refine (HA.out _).mono ?_; rintro e w1 ⟨rfl, h1⟩; have H1 := Lib.hid (((Below.refl w.heap.size w).alloc (Nat.le_refl _) (.cells #[.pointer (some ⟨f, 0, none⟩), .string ⟨#[47]⟩] 186)).trans (h1.mono (by simp))); have q0 : w1.cell? ⟨w.heap.size, 0, none⟩ = some (.pointer (some ⟨f, 0, none⟩)) := (h1.cell (p := ⟨w.heap.size, 0, none⟩) (by simp)).trans (by simp); have HH := Lib.hid (HX.out.below H1.out); clear h1; simp only [])
      | (go_at_call 242; refine (HK.out _ HH.out).mono ?_; rintro e w2 ⟨rfl, h2⟩; have H2 := Lib.hid (H1.out.trans (h2.mono H1.out.size)); clear h2; simp only []))
    go_ret
    exact ⟨rfl, H2.out⟩
  · have hk : timeA T x = 0 := by unfold timeA; rw [hr, if_neg h0]
    rw [hk]
    have hne : (rn != 0) = true := by simpa using h0
    rw [hP] at HA
    clear hH hr hP hk h0
    unfold plc
    go_enter Tryz.func204, Tryz.ntmps204
    go_wp2_with (go_at_call 42; refine (HA.out _).mono ?_; rintro e w1 ⟨rfl, h1⟩; have H1 := Lib.hid (((Below.refl w.heap.size w).alloc (Nat.le_refl _) (.cells #[.pointer (some ⟨f, 0, none⟩), .string ⟨#[47]⟩] 186)).trans (h1.mono (by simp))); clear h1; simp only [])
    go_ret
    exact ⟨rfl, H1.out⟩
/-- Read tells an errno, and how much it read. -/
theorem Read_fill (p : ByteArray) (hp : PathOk p) : ∃ (er : Int) (k : Nat), (er == 0 && decide ((0 : Int) < (k : Int))) = filledT T p ∧ ∀ w, Here w f T →
    Calls Tryz.prog 24 #[.pointer (some ⟨f, 0, none⟩), .string p] w fun e w' => (∃ a c, e = .returned (.tuple #[.slice a k c, .int .i64 er])) ∧ Below w.heap.size w w' := by
  by_cases hP : presE T p = 0
  · have hE : findE T p = 0 := by
      by_cases h : findE T p = 0
      · exact h
      · rw [presE, if_pos h] at hP; exact hP
    cases hn : T (findL p) with
    | none => rw [presE, if_neg (fun e => e hE), hn] at hP; simp at hP
    | some n =>
      have hk : filledT T p = (n.file && decide (0 < n.data.length)) := by unfold filledT; rw [if_neg (by simpa using hP), hn]
      cases hf : n.file
      · refine ⟨10, 0, by rw [hk, hf]; rfl, fun w hH => ?_⟩
        obtain ⟨⟨B, N, c, F, A, M, V, hT, hft, r0, h0, hr0⟩, _⟩ := hH
        refine (Read_dir hT h0 hr0 hp hE hn hf).mono ?_
        rintro e w' ⟨rfl, h⟩
        exact ⟨⟨none, 0, rfl⟩, h⟩
      · refine ⟨0, n.data.length, by rw [hk, hf]; simp, fun w hH => ?_⟩
        obtain ⟨⟨B, N, c, F, A, M, V, hT, hft, r0, h0, hr0⟩, hs⟩ := hH
        refine (Read_file hT h0 hr0 hp hE hn hf (hs _ _ hn)).mono ?_
        rintro e w' ⟨v', rfl, hown, h⟩
        rcases hown.2 with ⟨h1, h0⟩ | ⟨g, c', cur, h1, _⟩
        · exact ⟨⟨none, 0, by rw [h1, h0]⟩, h⟩
        · exact ⟨⟨_, c', by rw [h1]⟩, h⟩
  · have hk : filledT T p = false := by unfold filledT; rw [if_pos hP]
    refine ⟨presE T p, 0, by rw [hk]; simp, fun w hH => ?_⟩
    obtain ⟨⟨B, N, c, F, A, M, V, hT, hft, r0, h0, hr0⟩, _⟩ := hH
    refine (Read_err hT h0 hr0 hp hP).mono ?_
    rintro e w' ⟨rfl, h⟩
    exact ⟨⟨none, 0, rfl⟩, h⟩
set_option maxHeartbeats 4000000 in
theorem filled_any (x : ByteArray) (hx : x.size ≤ 1100000) (w : World) (hH : Here w f T) :
    Calls Tryz.prog 203 #[plc f, .string x] w fun e w' => e = .returned (.bool (filledA T x)) ∧ Below w.heap.size w w' := by
  have HX := Lib.hid hH
  obtain ⟨⟨rs, rn⟩, hr⟩ : ∃ r, abs_ root1 x = r := ⟨_, rfl⟩
  have HA := Lib.hid (fun w => Bg.Abs_any ⟨#[47]⟩ x w (by decide) hx rs rn hr)
  obtain ⟨P, hP⟩ : ∃ P : ByteArray, ⟨rs.toArray⟩ = P := ⟨_, rfl⟩
  by_cases h0 : rn = 0
  · subst h0
    have hk : filledA T x = filledT T P := by unfold filledA; rw [hr, if_pos rfl, ← hP]
    have hp := abs_path x rs hr
    rw [hP] at hp
    obtain ⟨er, k, hkk, hK⟩ := Read_fill (f := f) (T := T) P hp
    have HK := Lib.hid hK
    rw [hk, ← hkk]
    rw [hP] at HA
    clear hH hr hP hk hp hkk hK
    unfold plc
    by_cases he : er = 0
    · subst he
      by_cases hkz : (0 : Int) < (k : Int)
      all_goals
        go_enter Tryz.func203, Tryz.ntmps203
        go_wp2_with (first
          | (go_at_call 42; refine (HA.out _).mono ?_; rintro e w1 ⟨rfl, h1⟩; have H1 := Lib.hid (((Below.refl w.heap.size w).alloc (Nat.le_refl _) (.cells #[.pointer (some ⟨f, 0, none⟩), .string ⟨#[47]⟩] 186)).trans (h1.mono (by simp))); have q0 : w1.cell? ⟨w.heap.size, 0, none⟩ = some (.pointer (some ⟨f, 0, none⟩)) := (h1.cell (p := ⟨w.heap.size, 0, none⟩) (by simp)).trans (by simp); have HH := Lib.hid (HX.out.below H1.out); clear h1; simp only [])
          | (go_at_call 24; refine (HK.out _ HH.out).mono ?_; rintro e w2 ⟨⟨a, c, rfl⟩, h2⟩; have H2 := Lib.hid (H1.out.trans (h2.mono H1.out.size)); clear h2; simp only []))
        go_ret
        exact ⟨by simp [hkz], H2.out⟩
    · have hne : (er == 0) = false := by simpa using he
      go_enter Tryz.func203, Tryz.ntmps203
      go_wp2_with (first
        | (go_at_call 42; refine (HA.out _).mono ?_; rintro e w1 ⟨rfl, h1⟩; have H1 := Lib.hid (((Below.refl w.heap.size w).alloc (Nat.le_refl _) (.cells #[.pointer (some ⟨f, 0, none⟩), .string ⟨#[47]⟩] 186)).trans (h1.mono (by simp))); have q0 : w1.cell? ⟨w.heap.size, 0, none⟩ = some (.pointer (some ⟨f, 0, none⟩)) := (h1.cell (p := ⟨w.heap.size, 0, none⟩) (by simp)).trans (by simp); have HH := Lib.hid (HX.out.below H1.out); clear h1; simp only [])
        | (go_at_call 24; refine (HK.out _ HH.out).mono ?_; rintro e w2 ⟨⟨a, c, rfl⟩, h2⟩; have H2 := Lib.hid (H1.out.trans (h2.mono H1.out.size)); clear h2; simp only []))
      go_ret
      exact ⟨by simp [hne], H2.out⟩
  · have hk : filledA T x = false := by unfold filledA; rw [hr, if_neg h0]
    rw [hk]
    have hne : (rn != 0) = true := by simpa using h0
    rw [hP] at HA
    clear hH hr hP hk h0
    unfold plc
    go_enter Tryz.func203, Tryz.ntmps203
    go_wp2_with (go_at_call 42; refine (HA.out _).mono ?_; rintro e w1 ⟨rfl, h1⟩; have H1 := Lib.hid (((Below.refl w.heap.size w).alloc (Nat.le_refl _) (.cells #[.pointer (some ⟨f, 0, none⟩), .string ⟨#[47]⟩] 186)).trans (h1.mono (by simp))); clear h1; simp only [])
    go_ret
    exact ⟨rfl, H1.out⟩
end
end Go.Proofs.YtcmjpkfinbakkaaGreatDoor.Vf

namespace Go.Proofs.YtcmjpkfinbakkaaGreatDoor.Vf
set_option maxRecDepth 100000
open Go.RowKit Go.Maps Go.ChangeMaps
set_option linter.unusedVariables false

section
variable {f : Nat} {T : Tr}
theorem box_below (w : World) : Below w.heap.size w (w.alloc (.cells #[.pointer (some ⟨f, 0, none⟩), .string ⟨#[47]⟩] 186)) := (Below.refl _ _).alloc (Nat.le_refl _) _
set_option maxHeartbeats 4000000 in
/-- ! tells whether its argument is empty. -/
theorem unary_bang (x : ByteArray) (w : World) :
    Calls Tryz.prog 153 #[plc f, .string ⟨#[33]⟩, .string x] w fun e w' => e = .returned (.tuple #[.bool x.toList.isEmpty, .int .i64 0]) ∧ Below w.heap.size w w' := by
  unfold plc
  cases he : x.toList.isEmpty
  all_goals
    go_enter Tryz.func153, Tryz.ntmps153
    go_wp2_with fail
    go_ret2
    exact ⟨rfl, box_below _⟩
set_option maxHeartbeats 4000000 in
theorem unary_z (x : ByteArray) (w : World) :
    Calls Tryz.prog 153 #[plc f, .string ⟨#[45, 122]⟩, .string x] w fun e w' => e = .returned (.tuple #[.bool x.toList.isEmpty, .int .i64 0]) ∧ Below w.heap.size w w' := by
  unfold plc
  cases he : x.toList.isEmpty
  all_goals
    go_enter Tryz.func153, Tryz.ntmps153
    go_wp2_with fail
    go_ret2
    exact ⟨rfl, box_below _⟩
set_option maxHeartbeats 4000000 in
theorem unary_n (x : ByteArray) (w : World) :
    Calls Tryz.prog 153 #[plc f, .string ⟨#[45, 110]⟩, .string x] w fun e w' => e = .returned (.tuple #[.bool (!x.toList.isEmpty), .int .i64 0]) ∧ Below w.heap.size w w' := by
  unfold plc
  cases he : x.toList.isEmpty
  all_goals
    go_enter Tryz.func153, Tryz.ntmps153
    go_wp2_with fail
    go_ret2
    exact ⟨rfl, box_below _⟩
set_option maxHeartbeats 4000000 in
theorem unary_efd (x : ByteArray) (hx : x.size ≤ 1100000) (w : World) (hH : Here w f T) :
    (Calls Tryz.prog 153 #[plc f, .string ⟨#[45, 101]⟩, .string x] w fun e w' => e = .returned (.tuple #[.bool (kindA T x != 0), .int .i64 0]) ∧ Below w.heap.size w w') ∧
    (Calls Tryz.prog 153 #[plc f, .string ⟨#[45, 102]⟩, .string x] w fun e w' => e = .returned (.tuple #[.bool (kindA T x == 1), .int .i64 0]) ∧ Below w.heap.size w w') ∧
    (Calls Tryz.prog 153 #[plc f, .string ⟨#[45, 100]⟩, .string x] w fun e w' => e = .returned (.tuple #[.bool (kindA T x == 2), .int .i64 0]) ∧ Below w.heap.size w w') ∧
    (Calls Tryz.prog 153 #[plc f, .string ⟨#[45, 115]⟩, .string x] w fun e w' => e = .returned (.tuple #[.bool (filledA T x), .int .i64 0]) ∧ Below w.heap.size w w') := by
  have HK := Lib.hid (kind_any x hx _ (hH.below (box_below (f := f) w)))
  have HF := Lib.hid (filled_any x hx _ (hH.below (box_below (f := f) w)))
  generalize kindA T x = K at *
  generalize filledA T x = G at *
  unfold plc at *
  clear hH
  refine ⟨?_, ?_, ?_, ?_⟩
  all_goals
    go_enter Tryz.func153, Tryz.ntmps153
    go_wp2_with (first
      | (go_at_call 202; refine HK.out.mono ?_; rintro e w1 ⟨rfl, h1⟩; have H1 := Lib.hid ((box_below (f := f) w).trans (h1.mono (by simp))); clear h1; simp only [])
      | (go_at_call 203; refine HF.out.mono ?_; rintro e w1 ⟨rfl, h1⟩; have H1 := Lib.hid ((box_below (f := f) w).trans (h1.mono (by simp))); clear h1; simp only []))
    go_ret2
    exact ⟨rfl, H1.out⟩
theorem eq_bs {op : ByteArray} {l : List UInt8} (h : (op.toList == l) = true) : op = ⟨l.toArray⟩ := Ck.bs_of op l h
set_option maxHeartbeats 4000000 in
theorem unary_other (op x : ByteArray) (w : World) (h1 : (op.toList == [33]) = false) (h2 : (op.toList == [45, 122]) = false) (h3 : (op.toList == [45, 110]) = false) (h4 : (op.toList == [45, 101]) = false) (h5 : (op.toList == [45, 102]) = false) (h6 : (op.toList == [45, 100]) = false) (h7 : (op.toList == [45, 115]) = false) :
    Calls Tryz.prog 153 #[plc f, .string op, .string x] w fun e w' => e = .returned (.tuple #[.bool false, .int .i64 2]) ∧ Below w.heap.size w w' := by
  unfold plc
  go_enter Tryz.func153, Tryz.ntmps153
  go_wp2_with fail
  go_ret2
  exact ⟨rfl, box_below _⟩
/-- What a word and an argument tell hangs on the tree alone. -/
theorem unary_fun (op x : ByteArray) (hx : x.size ≤ 1100000) : ∃ (v : Bool) (n : Int), ∀ w, Here w f T →
    Calls Tryz.prog 153 #[plc f, .string op, .string x] w fun e w' => e = .returned (.tuple #[.bool v, .int .i64 n]) ∧ Below w.heap.size w w' := by
  cases h1 : (op.toList == [33])
  case true => cases eq_bs h1; exact ⟨_, _, fun w _ => unary_bang x w⟩
  cases h2 : (op.toList == [45, 122])
  case true => cases eq_bs h2; exact ⟨_, _, fun w _ => unary_z x w⟩
  cases h3 : (op.toList == [45, 110])
  case true => cases eq_bs h3; exact ⟨_, _, fun w _ => unary_n x w⟩
  cases h4 : (op.toList == [45, 101])
  case true => cases eq_bs h4; exact ⟨_, _, fun w h => (unary_efd (T := T) x hx w h).1⟩
  cases h5 : (op.toList == [45, 102])
  case true => cases eq_bs h5; exact ⟨_, _, fun w h => (unary_efd (T := T) x hx w h).2.1⟩
  cases h6 : (op.toList == [45, 100])
  case true => cases eq_bs h6; exact ⟨_, _, fun w h => (unary_efd (T := T) x hx w h).2.2.1⟩
  cases h7 : (op.toList == [45, 115])
  case true => cases eq_bs h7; exact ⟨_, _, fun w h => (unary_efd (T := T) x hx w h).2.2.2⟩
  exact ⟨_, _, fun w _ => unary_other op x w h1 h2 h3 h4 h5 h6 h7⟩
end
end Go.Proofs.YtcmjpkfinbakkaaGreatDoor.Vf

namespace Go.Proofs.YtcmjpkfinbakkaaGreatDoor.Vf
set_option maxRecDepth 100000
open Go.RowKit Go.Maps Go.ChangeMaps
set_option linter.unusedVariables false

section
variable {f : Nat} {T : Tr}
set_option maxHeartbeats 4000000 in
theorem binary_eq (a b : ByteArray) (w : World) :
    Calls Tryz.prog 155 #[plc f, .string a, .string ⟨#[61]⟩, .string b] w fun e w' => e = .returned (.tuple #[.bool (a.toList == b.toList), .int .i64 0]) ∧ Below w.heap.size w w' := by
  unfold plc
  cases he : (a.toList == b.toList)
  all_goals
    go_enter Tryz.func155, Tryz.ntmps155
    go_wp2_with fail
    go_ret2
    exact ⟨rfl, box_below _⟩
set_option maxHeartbeats 4000000 in
theorem binary_ne (a b : ByteArray) (w : World) :
    Calls Tryz.prog 155 #[plc f, .string a, .string ⟨#[33, 61]⟩, .string b] w fun e w' => e = .returned (.tuple #[.bool (!(a.toList == b.toList)), .int .i64 0]) ∧ Below w.heap.size w w' := by
  unfold plc
  cases he : (a.toList == b.toList)
  all_goals
    go_enter Tryz.func155, Tryz.ntmps155
    go_wp2_with fail
    go_ret2
    exact ⟨rfl, box_below _⟩
set_option maxHeartbeats 8000000 in
theorem binary_nt (a b : ByteArray) (ha : a.size ≤ 1100000) (hb : b.size ≤ 1100000) (w : World) (hH : Here w f T) :
    Calls Tryz.prog 155 #[plc f, .string a, .string ⟨#[45, 110, 116]⟩, .string b] w fun e w' => e = .returned (.tuple #[.bool (decide (timeA T b < timeA T a)), .int .i64 0]) ∧ Below w.heap.size w w' := by
  have HB : Hid (Below w.heap.size w (w.alloc (.cells #[.pointer (some ⟨f, 0, none⟩), .string ⟨#[47]⟩] 186))) := box_below w
  have p0 : (w.alloc (.cells #[.pointer (some ⟨f, 0, none⟩), .string ⟨#[47]⟩] 186)).cell? ⟨w.heap.size, 0, none⟩ = some (.pointer (some ⟨f, 0, none⟩)) := by simp
  have p1 : (w.alloc (.cells #[.pointer (some ⟨f, 0, none⟩), .string ⟨#[47]⟩] 186)).cell? ⟨w.heap.size, 1, none⟩ = some (.string ⟨#[47]⟩) := by simp
  have hz : w.heap.size < (w.alloc (.cells #[.pointer (some ⟨f, 0, none⟩), .string ⟨#[47]⟩] 186)).heap.size := by simp
  obtain ⟨wz, hwz⟩ : ∃ wz, (w.alloc (.cells #[.pointer (some ⟨f, 0, none⟩), .string ⟨#[47]⟩] 186)) = wz := ⟨_, rfl⟩
  rw [hwz] at HB p0 p1 hz
  have HH := Lib.hid (hH.below HB.out)
  have HCC : Hid (∀ w', Below wz.heap.size wz w' → w'.cell? ⟨w.heap.size, 0, none⟩ = some (.pointer (some ⟨f, 0, none⟩)) ∧ w'.cell? ⟨w.heap.size, 1, none⟩ = some (.string ⟨#[47]⟩)) := fun w' h => ⟨(h.cell (p := ⟨w.heap.size, 0, none⟩) hz).trans p0, (h.cell (p := ⟨w.heap.size, 1, none⟩) hz).trans p1⟩
  have HA : Hid (∀ w', Below wz.heap.size wz w' → Calls Tryz.prog 204 #[.agg #[.pointer (some ⟨f, 0, none⟩), .string ⟨#[47]⟩], .string a] w' fun e w2 => e = .returned (.int .i64 (timeA T a)) ∧ Below wz.heap.size wz w2) := fun w' h => (time_any a ha w' (HH.out.below h)).mono fun e w2 h2 => ⟨h2.1, h.trans (h2.2.mono h.size)⟩
  have HT : Hid (∀ w', Below wz.heap.size wz w' → Calls Tryz.prog 204 #[.agg #[.pointer (some ⟨f, 0, none⟩), .string ⟨#[47]⟩], .string b] w' fun e w2 => e = .returned (.int .i64 (timeA T b)) ∧ Below wz.heap.size wz w2) := fun w' h => (time_any b hb w' (HH.out.below h)).mono fun e w2 h2 => ⟨h2.1, h.trans (h2.2.mono h.size)⟩
  generalize timeA T a = ta at *
  generalize timeA T b = tb at *
  clear hH ha hb HH hz p0 p1
  have HW := Lib.hid hwz
  clear hwz
  unfold plc
  by_cases hlt : tb < ta
  all_goals
    go_enter Tryz.func155, Tryz.ntmps155
    go_wp2_with fail
    rw [HW.out]
    obtain ⟨c0, c1⟩ := HCC.out wz (Below.refl _ _)
    go_region_held3 (fun w' => w'.cell? ⟨w.heap.size, 0, none⟩ = some (.pointer (some ⟨f, 0, none⟩)) ∧ w'.cell? ⟨w.heap.size, 1, none⟩ = some (.string ⟨#[47]⟩)) (first | exact HCC.out _ hq2 | exact HCC.out _ hq1 | exact HCC.out _ (Below.refl _ _).drew) (first
      | (go_at_call 204; ((with_reducible refine (HT.out _ hq1).mono ?_)); rintro e wq2 ⟨rfl, hq2⟩)
      | (go_at_call 204; ((with_reducible refine (HA.out _ (Below.refl _ _).drew).mono ?_)); rintro e wq1 ⟨rfl, hq1⟩))
    all_goals
      have HZ := Lib.hid (HB.out.trans (hq2.mono HB.out.size))
      clear hq2 hq1
      go_wp2_with fail
      go_ret2
      exact ⟨by simp [hlt], HZ.out⟩
end
end Go.Proofs.YtcmjpkfinbakkaaGreatDoor.Vf

namespace Go.Proofs.YtcmjpkfinbakkaaGreatDoor.Vf
set_option maxRecDepth 100000
open Go.RowKit Go.Maps Go.ChangeMaps
set_option linter.unusedVariables false

section
variable {f : Nat} {T : Tr}
/-- Whether a sign compares, what it tells. -/
theorem binary_fun (a op b : ByteArray) (ha : a.size ≤ 1100000) (hb : b.size ≤ 1100000) (h : op ∈ Ck.nine) : ∃ (v : Bool) (n : Int), ∀ w, Here w f T →
    Calls Tryz.prog 155 #[plc f, .string a, .string op, .string b] w fun e w' => e = .returned (.tuple #[.bool v, .int .i64 n]) ∧ Below w.heap.size w w' := by
  by_cases h6 : op ∈ ([⟨#[45, 101, 113]⟩, ⟨#[45, 110, 101]⟩, ⟨#[45, 108, 116]⟩, ⟨#[45, 108, 101]⟩, ⟨#[45, 103, 116]⟩, ⟨#[45, 103, 101]⟩] : List ByteArray)
  · obtain ⟨x1, x2, ka, hA⟩ := Ck.read_fun a ha
    obtain ⟨y1, y2, kb, hB⟩ := Ck.read_fun b hb
    obtain ⟨R, hR⟩ := Ck.holds_fun x1 x2 y1 y2 op h6
    refine ⟨_, _, fun w _ => Ck.binary_any (some ⟨f, 0, none⟩) ⟨#[47]⟩ a b op x1 x2 y1 y2 ka kb R ?_ ?_ ?_ hA hB (fun _ _ => hR) w⟩
    all_goals
      simp only [List.mem_cons, List.not_mem_nil, or_false] at h6
      rcases h6 with rfl | rfl | rfl | rfl | rfl | rfl <;> (rw [Lib.toList_data]; rfl)
  · have h3 : op = ⟨#[61]⟩ ∨ op = ⟨#[33, 61]⟩ ∨ op = ⟨#[45, 110, 116]⟩ := by
      unfold Ck.nine at h
      simp only [List.mem_cons, List.not_mem_nil, or_false] at h h6
      simp only [not_or] at h6
      rcases h with e | e | e | e | e | e | e | e | e
      · exact .inl e
      · exact .inr (.inl e)
      · exact absurd e h6.1
      · exact absurd e h6.2.1
      · exact absurd e h6.2.2.1
      · exact absurd e h6.2.2.2.1
      · exact absurd e h6.2.2.2.2.1
      · exact absurd e h6.2.2.2.2.2
      · exact .inr (.inr e)
    rcases h3 with rfl | rfl | rfl
    · exact ⟨_, _, fun w _ => binary_eq a b w⟩
    · exact ⟨_, _, fun w _ => binary_ne a b w⟩
    · exact ⟨_, _, fun w h => binary_nt (T := T) a b ha hb w h⟩
theorem test1 (a : ByteArray) (g off c : Nat) (w : World) (hg : g < w.heap.size) (c0 : w.cell? ⟨g, off, none⟩ = some (.string a)) :
    Calls Tryz.prog 112 #[.pointer (some ⟨f, 0, none⟩), .string ⟨#[47]⟩, .slice (some ⟨g, off, none⟩) 1 c] w fun e w' => e = .returned (.tuple #[.bool (!a.toList.isEmpty), .int .i64 0]) ∧ Below w.heap.size w w' := by
  have hne : g ≠ w.heap.size := by omega
  cases he : a.toList.isEmpty
  all_goals
    go_enter Tryz.func112, Tryz.ntmps112
    go_wp2_with fail
    go_ret2
    exact ⟨rfl, box_below _⟩
set_option maxHeartbeats 8000000 in
theorem test2 (a b : ByteArray) (g off c : Nat) (v : Bool) (n : Int) (w : World) (hg : g < w.heap.size) (c0 : w.cell? ⟨g, off, none⟩ = some (.string a)) (c1 : w.cell? ⟨g, off + 1, none⟩ = some (.string b)) (hH : Here w f T)
    (HU : Hid (∀ w, Here w f T → Calls Tryz.prog 153 #[plc f, .string a, .string b] w fun e w' => e = .returned (.tuple #[.bool v, .int .i64 n]) ∧ Below w.heap.size w w')) :
    Calls Tryz.prog 112 #[.pointer (some ⟨f, 0, none⟩), .string ⟨#[47]⟩, .slice (some ⟨g, off, none⟩) 2 c] w fun e w' => e = .returned (.tuple #[.bool v, .int .i64 n]) ∧ Below w.heap.size w w' := by
  have HB : Hid (Below w.heap.size w (w.alloc (.cells #[.pointer (some ⟨f, 0, none⟩), .string ⟨#[47]⟩] 186))) := box_below w
  have p0 : (w.alloc (.cells #[.pointer (some ⟨f, 0, none⟩), .string ⟨#[47]⟩] 186)).cell? ⟨w.heap.size, 0, none⟩ = some (.pointer (some ⟨f, 0, none⟩)) := by simp
  have p1 : (w.alloc (.cells #[.pointer (some ⟨f, 0, none⟩), .string ⟨#[47]⟩] 186)).cell? ⟨w.heap.size, 1, none⟩ = some (.string ⟨#[47]⟩) := by simp
  have hz : w.heap.size < (w.alloc (.cells #[.pointer (some ⟨f, 0, none⟩), .string ⟨#[47]⟩] 186)).heap.size := by simp
  obtain ⟨wz, hwz⟩ : ∃ wz, (w.alloc (.cells #[.pointer (some ⟨f, 0, none⟩), .string ⟨#[47]⟩] 186)) = wz := ⟨_, rfl⟩
  rw [hwz] at HB p0 p1 hz
  have HH := Lib.hid (hH.below HB.out)
  have q0 := (HB.out.cell (p := ⟨g, off, none⟩) hg).trans c0
  have q1 := (HB.out.cell (p := ⟨g, off + 1, none⟩) hg).trans c1
  have hgz : g < wz.heap.size := by omega
  have HCC : Hid (∀ w', Below wz.heap.size wz w' → w'.cell? ⟨w.heap.size, 0, none⟩ = some (.pointer (some ⟨f, 0, none⟩)) ∧ w'.cell? ⟨w.heap.size, 1, none⟩ = some (.string ⟨#[47]⟩) ∧ w'.cell? ⟨g, off, none⟩ = some (.string a) ∧ w'.cell? ⟨g, off + 1, none⟩ = some (.string b)) := fun w' h => ⟨(h.cell (p := ⟨w.heap.size, 0, none⟩) hz).trans p0, (h.cell (p := ⟨w.heap.size, 1, none⟩) hz).trans p1, (h.cell (p := ⟨g, off, none⟩) hgz).trans q0, (h.cell (p := ⟨g, off + 1, none⟩) hgz).trans q1⟩
  have HA : Hid (∀ w', Below wz.heap.size wz w' → Calls Tryz.prog 153 #[.agg #[.pointer (some ⟨f, 0, none⟩), .string ⟨#[47]⟩], .string a, .string b] w' fun e w2 => e = .returned (.tuple #[.bool v, .int .i64 n]) ∧ Below wz.heap.size wz w2) := fun w' h => (HU.out w' (HH.out.below h)).mono fun e w2 h2 => ⟨h2.1, h.trans (h2.2.mono h.size)⟩
  have HW := Lib.hid hwz
  clear hwz hH HH HU hg hz hgz q0 q1 p0 p1 c0 c1
  go_enter Tryz.func112, Tryz.ntmps112
  go_wp2_with fail
  rw [HW.out]
  obtain ⟨c0, c1, c2, c3⟩ := HCC.out wz (Below.refl _ _)
  go_region_held3 (fun w' => w'.cell? ⟨w.heap.size, 0, none⟩ = some (.pointer (some ⟨f, 0, none⟩)) ∧ w'.cell? ⟨w.heap.size, 1, none⟩ = some (.string ⟨#[47]⟩) ∧ w'.cell? ⟨g, off, none⟩ = some (.string a) ∧ w'.cell? ⟨g, off + 1, none⟩ = some (.string b)) (first | exact HCC.out _ hq1 | exact HCC.out _ (Below.refl _ _).drew) (first
    | (go_at_call 153; ((with_reducible refine (HA.out _ (Below.refl _ _).drew).mono ?_)); rintro e wq1 ⟨rfl, hq1⟩))
  all_goals
    have HZ := Lib.hid (HB.out.trans (hq1.mono HB.out.size))
    clear hq1
    go_wp2_with fail
    go_ret2
    exact ⟨rfl, HZ.out⟩
end
end Go.Proofs.YtcmjpkfinbakkaaGreatDoor.Vf

namespace Go.Proofs.YtcmjpkfinbakkaaGreatDoor.Vf
set_option maxRecDepth 100000
open Go.RowKit Go.Maps Go.ChangeMaps
set_option linter.unusedVariables false

section
variable {f : Nat} {T : Tr}
set_option maxHeartbeats 8000000 in
/-- Three words whose middle compares. -/
theorem test3b (a op b : ByteArray) (g off c : Nat) (v : Bool) (n : Int) (w : World) (hg : g < w.heap.size) (c0 : w.cell? ⟨g, off, none⟩ = some (.string a)) (c1 : w.cell? ⟨g, off + 1, none⟩ = some (.string op)) (c2 : w.cell? ⟨g, off + 2, none⟩ = some (.string b)) (hop : op ∈ Ck.nine) (hH : Here w f T)
    (HU : Hid (∀ w, Here w f T → Calls Tryz.prog 155 #[plc f, .string a, .string op, .string b] w fun e w' => e = .returned (.tuple #[.bool v, .int .i64 n]) ∧ Below w.heap.size w w')) :
    Calls Tryz.prog 112 #[.pointer (some ⟨f, 0, none⟩), .string ⟨#[47]⟩, .slice (some ⟨g, off, none⟩) 3 c] w fun e w' => e = .returned (.tuple #[.bool v, .int .i64 n]) ∧ Below w.heap.size w w' := by
  have HB : Hid (Below w.heap.size w (w.alloc (.cells #[.pointer (some ⟨f, 0, none⟩), .string ⟨#[47]⟩] 186))) := box_below w
  have p0 : (w.alloc (.cells #[.pointer (some ⟨f, 0, none⟩), .string ⟨#[47]⟩] 186)).cell? ⟨w.heap.size, 0, none⟩ = some (.pointer (some ⟨f, 0, none⟩)) := by simp
  have p1 : (w.alloc (.cells #[.pointer (some ⟨f, 0, none⟩), .string ⟨#[47]⟩] 186)).cell? ⟨w.heap.size, 1, none⟩ = some (.string ⟨#[47]⟩) := by simp
  have hz : w.heap.size < (w.alloc (.cells #[.pointer (some ⟨f, 0, none⟩), .string ⟨#[47]⟩] 186)).heap.size := by simp
  obtain ⟨wz, hwz⟩ : ∃ wz, (w.alloc (.cells #[.pointer (some ⟨f, 0, none⟩), .string ⟨#[47]⟩] 186)) = wz := ⟨_, rfl⟩
  rw [hwz] at HB p0 p1 hz
  have HH := Lib.hid (hH.below HB.out)
  have q0 := (HB.out.cell (p := ⟨g, off, none⟩) hg).trans c0
  have q1 := (HB.out.cell (p := ⟨g, off + 1, none⟩) hg).trans c1
  have q2 := (HB.out.cell (p := ⟨g, off + 2, none⟩) hg).trans c2
  have hgz : g < wz.heap.size := by omega
  have HCC : Hid (∀ w', Below wz.heap.size wz w' → w'.cell? ⟨w.heap.size, 0, none⟩ = some (.pointer (some ⟨f, 0, none⟩)) ∧ w'.cell? ⟨w.heap.size, 1, none⟩ = some (.string ⟨#[47]⟩) ∧ w'.cell? ⟨g, off, none⟩ = some (.string a) ∧ w'.cell? ⟨g, off + 1, none⟩ = some (.string op) ∧ w'.cell? ⟨g, off + 2, none⟩ = some (.string b)) := fun w' h => ⟨(h.cell (p := ⟨w.heap.size, 0, none⟩) hz).trans p0, (h.cell (p := ⟨w.heap.size, 1, none⟩) hz).trans p1, (h.cell (p := ⟨g, off, none⟩) hgz).trans q0, (h.cell (p := ⟨g, off + 1, none⟩) hgz).trans q1, (h.cell (p := ⟨g, off + 2, none⟩) hgz).trans q2⟩
  have HA : Hid (∀ w', Below wz.heap.size wz w' → Calls Tryz.prog 155 #[.agg #[.pointer (some ⟨f, 0, none⟩), .string ⟨#[47]⟩], .string a, .string op, .string b] w' fun e w2 => e = .returned (.tuple #[.bool v, .int .i64 n]) ∧ Below wz.heap.size wz w2) := fun w' h => (HU.out w' (HH.out.below h)).mono fun e w2 h2 => ⟨h2.1, h.trans (h2.2.mono h.size)⟩
  have HI := Lib.hid (Ck.isBinary_yes op hop)
  have HW := Lib.hid hwz
  have hne : g ≠ w.heap.size := by omega
  clear hwz hH HH HU hz hgz q0 q1 q2 p0 p1 hop
  go_enter Tryz.func112, Tryz.ntmps112
  go_wp2_with (go_at_call 154; refine (HI.out _).mono ?_; rintro e w' ⟨rfl, rfl⟩)
  rw [HW.out]
  clear c0 c1 c2
  obtain ⟨c0, c1, c2, c3, c4⟩ := HCC.out wz (Below.refl _ _)
  go_region_held3 (fun w' => w'.cell? ⟨w.heap.size, 0, none⟩ = some (.pointer (some ⟨f, 0, none⟩)) ∧ w'.cell? ⟨w.heap.size, 1, none⟩ = some (.string ⟨#[47]⟩) ∧ w'.cell? ⟨g, off, none⟩ = some (.string a) ∧ w'.cell? ⟨g, off + 1, none⟩ = some (.string op) ∧ w'.cell? ⟨g, off + 2, none⟩ = some (.string b)) (first | exact HCC.out _ hq1 | exact HCC.out _ (Below.refl _ _).drew) (first
    | (go_at_call 155; ((with_reducible refine (HA.out _ (Below.refl _ _).drew).mono ?_)); rintro e wq1 ⟨rfl, hq1⟩))
  all_goals
    have HZ := Lib.hid (HB.out.trans (hq1.mono HB.out.size))
    clear hq1
    go_wp2_with fail
    go_ret2
    exact ⟨rfl, HZ.out⟩
set_option maxHeartbeats 8000000 in
/-- Three words whose middle does not compare, behind no !. -/
theorem test3e (a op : ByteArray) (g off c : Nat) (w : World) (hg : g < w.heap.size) (c0 : w.cell? ⟨g, off, none⟩ = some (.string a)) (c1 : w.cell? ⟨g, off + 1, none⟩ = some (.string op)) (hop : op ∉ Ck.nine) (ha : (a.toList == [33]) = false) :
    Calls Tryz.prog 112 #[.pointer (some ⟨f, 0, none⟩), .string ⟨#[47]⟩, .slice (some ⟨g, off, none⟩) 3 c] w fun e w' => e = .returned (.tuple #[.bool false, .int .i64 2]) ∧ Below w.heap.size w w' := by
  have HI := Lib.hid (Ck.isBinary_no op hop)
  have hne : g ≠ w.heap.size := by omega
  clear hop
  go_enter Tryz.func112, Tryz.ntmps112
  go_wp2_with (go_at_call 154; refine (HI.out _).mono ?_; rintro e w' ⟨rfl, rfl⟩)
  go_ret2
  exact ⟨rfl, box_below _⟩
set_option maxHeartbeats 8000000 in
/-- Three words, the first of which is !, and the second does not compare. -/
theorem test3n (op : ByteArray) (g off c : Nat) (v : Bool) (n : Int) (w : World) (hg : g < w.heap.size) (hc : 3 ≤ c) (c0 : w.cell? ⟨g, off, none⟩ = some (.string ⟨#[33]⟩)) (c1 : w.cell? ⟨g, off + 1, none⟩ = some (.string op)) (hop : op ∉ Ck.nine)
    (HR : Hid (∀ w', Below w.heap.size w w' → Calls Tryz.prog 112 #[.pointer (some ⟨f, 0, none⟩), .string ⟨#[47]⟩, .slice (some ⟨g, off + 1, none⟩) 2 (c - 1)] w' fun e w2 => e = .returned (.tuple #[.bool v, .int .i64 n]) ∧ Below w'.heap.size w' w2)) :
    Calls Tryz.prog 112 #[.pointer (some ⟨f, 0, none⟩), .string ⟨#[47]⟩, .slice (some ⟨g, off, none⟩) 3 c] w fun e w' => e = .returned (.tuple #[.bool (n == 0 && !v), .int .i64 n]) ∧ Below w.heap.size w w' := by
  have HI := Lib.hid (Ck.isBinary_no op hop)
  have hne : g ≠ w.heap.size := by omega
  obtain ⟨o, ho, hs⟩ := slice_from g off 3 c 1 (by omega)
  obtain rfl := ho (by omega)
  simp only [Nat.reduceSub, show ((1 : Nat) : Int) = 1 from rfl] at hs
  have HB : Hid (Below w.heap.size w (w.alloc (.cells #[.pointer (some ⟨f, 0, none⟩), .string ⟨#[47]⟩] 186))) := box_below w
  have HR2 : Hid (Calls Tryz.prog 112 #[.pointer (some ⟨f, 0, none⟩), .string ⟨#[47]⟩, .slice (some ⟨g, off + 1, none⟩) 2 (c - 1)] (w.alloc (.cells #[.pointer (some ⟨f, 0, none⟩), .string ⟨#[47]⟩] 186)) fun e w2 => e = .returned (.tuple #[.bool v, .int .i64 n]) ∧ Below w.heap.size w w2) := (HR.out _ HB.out).mono fun e w2 h => ⟨h.1, HB.out.trans (h.2.mono HB.out.size)⟩
  clear hop HR ho
  by_cases hn : n = 0
  · subst hn
    go_enter Tryz.func112, Tryz.ntmps112
    go_wp2_with (first
      | (go_at_call 154; refine (HI.out _).mono ?_; rintro e w' ⟨rfl, rfl⟩)
      | (go_at_call 112; refine HR2.out.mono ?_; rintro e w1 ⟨rfl, h1⟩; have H1 := Lib.hid h1; clear h1; simp only []))
    go_ret2
    exact ⟨by simp, H1.out⟩
  · have hnb : (n == 0) = false := by simpa using hn
    go_enter Tryz.func112, Tryz.ntmps112
    go_wp2_with (first
      | (go_at_call 154; refine (HI.out _).mono ?_; rintro e w' ⟨rfl, rfl⟩)
      | (go_at_call 112; refine HR2.out.mono ?_; rintro e w1 ⟨rfl, h1⟩; have H1 := Lib.hid h1; clear h1; simp only []))
    go_ret2
    exact ⟨by simp [hnb], H1.out⟩
set_option maxHeartbeats 8000000 in
/-- Four words, the first of which is !. -/
theorem test4n (g off c : Nat) (v : Bool) (n : Int) (w : World) (hg : g < w.heap.size) (hc : 4 ≤ c) (c0 : w.cell? ⟨g, off, none⟩ = some (.string ⟨#[33]⟩))
    (HR : Hid (∀ w', Below w.heap.size w w' → Calls Tryz.prog 112 #[.pointer (some ⟨f, 0, none⟩), .string ⟨#[47]⟩, .slice (some ⟨g, off + 1, none⟩) 3 (c - 1)] w' fun e w2 => e = .returned (.tuple #[.bool v, .int .i64 n]) ∧ Below w'.heap.size w' w2)) :
    Calls Tryz.prog 112 #[.pointer (some ⟨f, 0, none⟩), .string ⟨#[47]⟩, .slice (some ⟨g, off, none⟩) 4 c] w fun e w' => e = .returned (.tuple #[.bool (n == 0 && !v), .int .i64 n]) ∧ Below w.heap.size w w' := by
  have hne : g ≠ w.heap.size := by omega
  obtain ⟨o, ho, hs⟩ := slice_from g off 4 c 1 (by omega)
  obtain rfl := ho (by omega)
  simp only [Nat.reduceSub, show ((1 : Nat) : Int) = 1 from rfl] at hs
  have HB : Hid (Below w.heap.size w (w.alloc (.cells #[.pointer (some ⟨f, 0, none⟩), .string ⟨#[47]⟩] 186))) := box_below w
  have HR2 : Hid (Calls Tryz.prog 112 #[.pointer (some ⟨f, 0, none⟩), .string ⟨#[47]⟩, .slice (some ⟨g, off + 1, none⟩) 3 (c - 1)] (w.alloc (.cells #[.pointer (some ⟨f, 0, none⟩), .string ⟨#[47]⟩] 186)) fun e w2 => e = .returned (.tuple #[.bool v, .int .i64 n]) ∧ Below w.heap.size w w2) := (HR.out _ HB.out).mono fun e w2 h => ⟨h.1, HB.out.trans (h.2.mono HB.out.size)⟩
  clear HR ho
  by_cases hn : n = 0
  · subst hn
    go_enter Tryz.func112, Tryz.ntmps112
    go_wp2_with (first
      | (go_at_call 112; refine HR2.out.mono ?_; rintro e w1 ⟨rfl, h1⟩; have H1 := Lib.hid h1; clear h1; simp only []))
    go_ret2
    exact ⟨by simp, H1.out⟩
  · have hnb : (n == 0) = false := by simpa using hn
    go_enter Tryz.func112, Tryz.ntmps112
    go_wp2_with (first
      | (go_at_call 112; refine HR2.out.mono ?_; rintro e w1 ⟨rfl, h1⟩; have H1 := Lib.hid h1; clear h1; simp only []))
    go_ret2
    exact ⟨by simp [hnb], H1.out⟩
end
end Go.Proofs.YtcmjpkfinbakkaaGreatDoor.Vf
