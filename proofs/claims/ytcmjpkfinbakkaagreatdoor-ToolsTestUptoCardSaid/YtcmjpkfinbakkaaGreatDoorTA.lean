import Derived.Test.YtcmjpkfinbakkaaGreatDoorQXL
import Derived.Test.YtcmjpkfinbakkaaGreatDoorWRA
namespace Go.Proofs.YtcmjpkfinbakkaaGreatDoor.Vf
set_option maxRecDepth 100000
open Go.RowKit Go.Maps Go.ChangeMaps
set_option linter.unusedVariables false

section
variable {f : Nat} {T : Tr}
/-- Test tells of every short row always the same, and no error but that of form. -/
def TellsV (f : Nat) (T : Tr) (k : Nat) (n : Int) (v : Bool) (L : List ByteArray) : Prop := L.length = k ∧ (n = 0 ∨ n = 2) ∧ Tells3 f T L v n
set_option maxHeartbeats 4000000 in
theorem test0 (a : Option Addr) (c : Nat) (w : World) : Calls Tryz.prog 112 #[.pointer (some ⟨f, 0, none⟩), .string ⟨#[47]⟩, .slice a 0 c] w fun e w' => e = .returned (.tuple #[.bool false, .int .i64 0]) ∧ Below w.heap.size w w' := by
  go_enter Tryz.func112, Tryz.ntmps112
  go_wp2_with fail
  go_ret2
  exact ⟨rfl, box_below _⟩
set_option maxHeartbeats 4000000 in
theorem test_many (L : List ByteArray) (hl : 5 ≤ L.length) (hl2 : L.length ≤ 100) : Tells3 f T L false 2 := by
  intro w g off c hH hA
  have k0 : ((L.length : Int) == 0) = false := by rw [beq_eq_false_iff_ne]; omega
  have k1 : ((L.length : Int) == 1) = false := by rw [beq_eq_false_iff_ne]; omega
  have k2 : ((L.length : Int) == 2) = false := by rw [beq_eq_false_iff_ne]; omega
  have k3 : ((L.length : Int) == 3) = false := by rw [beq_eq_false_iff_ne]; omega
  have k4 : ((L.length : Int) == 4) = false := by rw [beq_eq_false_iff_ne]; omega
  clear hl hl2 hH hA
  go_enter Tryz.func112, Tryz.ntmps112
  go_wp2_with fail
  go_ret2
  exact ⟨rfl, box_below _⟩
set_option maxHeartbeats 4000000 in
theorem test4e (a b c d : ByteArray) (ha : (a.toList == [33]) = false) : Tells3 f T [a, b, c, d] false 2 := by
  intro w g off cc hH hA
  have hlt := hA.lt
  have hne : g ≠ w.heap.size := by omega
  have c0 : w.cell? ⟨g, off, none⟩ = some (.string a) := by simpa using hA.cell 0 (by simp)
  clear hH hA
  show Calls Tryz.prog 112 #[.pointer (some ⟨f, 0, none⟩), .string ⟨#[47]⟩, .slice (some ⟨g, off, none⟩) 4 cc] w _
  go_enter Tryz.func112, Tryz.ntmps112
  go_wp2_with fail
  go_ret2
  exact ⟨rfl, box_below _⟩
end
end Go.Proofs.YtcmjpkfinbakkaaGreatDoor.Vf

namespace Go.Proofs.YtcmjpkfinbakkaaGreatDoor.Vf
set_option maxRecDepth 100000
open Go.RowKit Go.Maps Go.ChangeMaps
set_option linter.unusedVariables false

section
variable {f : Nat} {T : Tr}
theorem unary_fun2 (op x : ByteArray) (hx : x.size ≤ 1100000) : ∃ (v : Bool) (n : Int), (n = 0 ∨ n = 2) ∧ ∀ w, Here w f T →
    Calls Tryz.prog 153 #[plc f, .string op, .string x] w fun e w' => e = .returned (.tuple #[.bool v, .int .i64 n]) ∧ Below w.heap.size w w' := by
  cases h1 : (op.toList == [33])
  case true => cases eq_bs h1; exact ⟨_, _, .inl rfl, fun w _ => unary_bang x w⟩
  cases h2 : (op.toList == [45, 122])
  case true => cases eq_bs h2; exact ⟨_, _, .inl rfl, fun w _ => unary_z x w⟩
  cases h3 : (op.toList == [45, 110])
  case true => cases eq_bs h3; exact ⟨_, _, .inl rfl, fun w _ => unary_n x w⟩
  cases h4 : (op.toList == [45, 101])
  case true => cases eq_bs h4; exact ⟨_, _, .inl rfl, fun w h => (unary_efd (T := T) x hx w h).1⟩
  cases h5 : (op.toList == [45, 102])
  case true => cases eq_bs h5; exact ⟨_, _, .inl rfl, fun w h => (unary_efd (T := T) x hx w h).2.1⟩
  cases h6 : (op.toList == [45, 100])
  case true => cases eq_bs h6; exact ⟨_, _, .inl rfl, fun w h => (unary_efd (T := T) x hx w h).2.2.1⟩
  cases h7 : (op.toList == [45, 115])
  case true => cases eq_bs h7; exact ⟨_, _, .inl rfl, fun w h => (unary_efd (T := T) x hx w h).2.2.2⟩
  exact ⟨_, _, .inr rfl, fun w _ => unary_other op x w h1 h2 h3 h4 h5 h6 h7⟩
theorem binary_fun2 (a op b : ByteArray) (ha : a.size ≤ 1100000) (hb : b.size ≤ 1100000) (h : op ∈ Ck.nine) : ∃ (v : Bool) (n : Int), (n = 0 ∨ n = 2) ∧ ∀ w, Here w f T →
    Calls Tryz.prog 155 #[plc f, .string a, .string op, .string b] w fun e w' => e = .returned (.tuple #[.bool v, .int .i64 n]) ∧ Below w.heap.size w w' := by
  by_cases h6 : op ∈ ([⟨#[45, 101, 113]⟩, ⟨#[45, 110, 101]⟩, ⟨#[45, 108, 116]⟩, ⟨#[45, 108, 101]⟩, ⟨#[45, 103, 116]⟩, ⟨#[45, 103, 101]⟩] : List ByteArray)
  · obtain ⟨x1, x2, ka, hA⟩ := Ck.read_fun a ha
    obtain ⟨y1, y2, kb, hB⟩ := Ck.read_fun b hb
    obtain ⟨R, hR⟩ := Ck.holds_fun x1 x2 y1 y2 op h6
    refine ⟨_, _, ?_, fun w _ => Ck.binary_any (some ⟨f, 0, none⟩) ⟨#[47]⟩ a b op x1 x2 y1 y2 ka kb R ?_ ?_ ?_ hA hB (fun _ _ => hR) w⟩
    · split
      · exact .inl rfl
      · exact .inr rfl
    all_goals
      simp only [List.mem_cons, List.not_mem_nil, or_false] at h6
      rcases h6 with rfl | rfl | rfl | rfl | rfl | rfl <;> (rw [Lib.toList_data]; rfl)
  · have h3 : op = ⟨#[61]⟩ ∨ op = ⟨#[33, 61]⟩ ∨ op = ⟨#[45, 110, 116]⟩ := by
      unfold Ck.nine at h
      simp only [List.mem_cons, List.not_mem_nil, or_false] at h h6
      simp only [not_or] at h6
      rcases h with e | e | e | e | e | e | e | e | e
      · exact .inl e
      · exact .inr (.inl e)
      · exact absurd e h6.1
      · exact absurd e h6.2.1
      · exact absurd e h6.2.2.1
      · exact absurd e h6.2.2.2.1
      · exact absurd e h6.2.2.2.2.1
      · exact absurd e h6.2.2.2.2.2
      · exact .inr (.inr e)
    rcases h3 with rfl | rfl | rfl
    · exact ⟨_, _, .inl rfl, fun w _ => binary_eq a b w⟩
    · exact ⟨_, _, .inl rfl, fun w _ => binary_ne a b w⟩
    · exact ⟨_, _, .inl rfl, fun w h => binary_nt (T := T) a b ha hb w h⟩
def TellsE (f : Nat) (T : Tr) (L : List ByteArray) : Prop := ∃ v n, (n = 0 ∨ n = 2) ∧ Tells3 f T L v n
theorem tellsE_2 (a b : ByteArray) (hb : b.size ≤ 1100000) : TellsE f T [a, b] := by
  obtain ⟨v, n, h0, h⟩ := unary_fun2 (f := f) (T := T) a b hb
  exact ⟨v, n, h0, fun w g off c hH hA => test2 (T := T) a b g off c v n w hA.lt (by simpa using hA.cell 0 (by simp)) (hA.cell 1 (by simp)) hH h⟩
theorem tellsE_3 (a op b : ByteArray) (hs : ∀ x ∈ [a, op, b], x.size ≤ 1100000) : TellsE f T [a, op, b] := by
  by_cases hop : op ∈ Ck.nine
  · obtain ⟨v, n, h0, h⟩ := binary_fun2 (f := f) (T := T) a op b (hs a (by simp)) (hs b (by simp)) hop
    exact ⟨v, n, h0, fun w g off c hH hA => test3b (T := T) a op b g off c v n w hA.lt (by simpa using hA.cell 0 (by simp)) (hA.cell 1 (by simp)) (hA.cell 2 (by simp)) hop hH h⟩
  · cases ha : (a.toList == [33])
    · exact ⟨_, _, .inr rfl, tells_3e a op b hop ha⟩
    · cases eq_bs ha
      obtain ⟨v, n, h0, h⟩ := tellsE_2 (f := f) (T := T) op b (hs b (by simp))
      exact ⟨_, _, h0, tells_3n op b hop v n h⟩
/-- Test tells of one to six words always the same. -/
theorem tellsE_all (L : List ByteArray) (h1 : 1 ≤ L.length) (h6 : L.length ≤ 6) (hs : ∀ x ∈ L, x.size ≤ 1100000) : TellsE f T L := by
  by_cases h5 : 5 ≤ L.length
  · exact ⟨_, _, .inr rfl, test_many L h5 (by omega)⟩
  · match L, h1, h5 with
    | [a], _, _ => exact ⟨_, _, .inl rfl, tells_1 a⟩
    | [a, b], _, _ => exact tellsE_2 a b (hs b (by simp))
    | [a, b, c], _, _ => exact tellsE_3 a b c hs
    | [a, b, c, d], _, _ =>
      cases ha : (a.toList == [33])
      · exact ⟨_, _, .inr rfl, test4e a b c d ha⟩
      · cases eq_bs ha
        obtain ⟨v, n, h0, h⟩ := tellsE_3 (f := f) (T := T) b c d (fun x hx => hs x (List.mem_cons_of_mem _ hx))
        exact ⟨_, _, h0, tells_4n b c d v n h⟩
    | a :: b :: c :: d :: e :: r, _, h5 => exact absurd (by simp) h5
/-- What a row of words tells, nil or not. -/
def TestC (f : Nat) (T : Tr) (v : Value) (L : List ByteArray) (is : Bool) (n : Int) (W : World) : Prop :=
  ∀ w', Below W.heap.size W w' → Here w' f T → Calls Tryz.prog 112 #[.pointer (some ⟨f, 0, none⟩), .string ⟨#[47]⟩, v] w' fun e w2 => e = .returned (.tuple #[.bool is, .int .i64 n]) ∧ Below w'.heap.size w' w2
/-- Words behind a slice. -/
def Words (w : World) (v : Value) (L : List ByteArray) : Prop := ∃ a c, v = .slice a L.length c ∧ (1 ≤ L.length → ∃ g off, a = some ⟨g, off, none⟩ ∧ ArgsAt w g off c L)
theorem Words.below {w w' : World} {v : Value} {L : List ByteArray} (h : Words w v L) (hb : Below w.heap.size w w') : Words w' v L := by
  obtain ⟨a, c, h1, h2⟩ := h
  exact ⟨a, c, h1, fun h => by obtain ⟨g, off, e, hA⟩ := h2 h; exact ⟨g, off, e, hA.below hb⟩⟩
theorem testC (L : List ByteArray) (h6 : L.length ≤ 6) (hs : ∀ x ∈ L, x.size ≤ 1100000) : ∃ is n, (n = 0 ∨ n = 2) ∧ ∀ v W, Words W v L → TestC f T v L is n W := by
  by_cases h1 : 1 ≤ L.length
  · obtain ⟨is, n, h0, h⟩ := tellsE_all (f := f) (T := T) L h1 h6 hs
    refine ⟨is, n, h0, fun v W hW w' hb hH => ?_⟩
    obtain ⟨a, c, rfl, hA⟩ := hW
    obtain ⟨g, off, rfl, hA2⟩ := hA h1
    exact h w' g off c hH (hA2.below hb)
  · refine ⟨false, 0, .inl rfl, fun v W hW w' hb hH => ?_⟩
    obtain ⟨a, c, rfl, _⟩ := hW
    have : L.length = 0 := by omega
    rw [this]
    exact test0 a c w'
end
end Go.Proofs.YtcmjpkfinbakkaaGreatDoor.Vf

namespace Go.Proofs.YtcmjpkfinbakkaaGreatDoor
open Go.RowKit Go.ChangeShapes Go.WideShapes
set_option linter.unusedVariables false
set_option maxRecDepth 100000

def bsOf (L : List ByteArray) : List Bz := L.map (·.data.toList)
def optN : ByteArray := ⟨#[45, 110]⟩
/-- What echo tells. -/
def echoB (L : List ByteArray) : Bz := if L.head? = some optN then Lib.join (bsOf L.tail) [32] else Lib.join (bsOf L) [32] ++ [10]
def EchoP (B t : Nat) (f : Value) (cwd name : ByteArray) (inn : Value) (st : Int) (l : Value) (m bs : Bz) (w : World) (e : Ending) (w' : World) : Prop :=
  e = .returned (.tuple #[]) ∧ ∃ o', Tool w' B t f cwd name inn st o' bs l m ∧ Only (fun k => k = t) w w'
theorem opt_ne {x : ByteArray} (h : ¬ x = optN) : (x.toList == [45, 110]) = false := by
  rw [beq_eq_false_iff_ne]
  intro e
  refine h (ByteArray.ext (Array.ext' ?_))
  rw [← Lib.toList_data, e]; rfl
theorem opt_yes : ((optN : ByteArray).toList == [45, 110]) = true := by rw [Lib.toList_data]; rfl
theorem mk_data (l : Bz) : (⟨l.toArray⟩ : ByteArray).data.toList = l := rfl
theorem ba_app (a b : ByteArray) : (a ++ b).data.toList = a.data.toList ++ b.data.toList := by simp
set_option pp.maxSteps 4000 in
set_option maxHeartbeats 8000000 in
theorem echo_plain (B t : Nat) (f : Value) (cwd name : ByteArray) (inn : Value) (st : Int) (l : Value) (m : Bz) (v : Value) (L : List ByteArray) (w : World) (h : Tool w B t f cwd name inn st (.slice none 0 0) [] l m) (hT : Txt w v L) (hc : ∀ a c, v = .slice a L.length c → L.length ≤ c)
    (hN : L.length ≤ 1000000) (hl : (Lib.join (bsOf L) [32]).length ≤ 65000) (hh : L.head? ≠ some optN) (hB : B ≤ w.heap.size) :
    Calls Tryz.prog 52 #[.pointer (some ⟨t, 0, none⟩), v] w (EchoP B t f cwd name inn st l m (Lib.join (bsOf L) [32] ++ [10]) w) := by
  obtain ⟨Q', hQ⟩ : ∃ Q', EchoP B t f cwd name inn st l m (Lib.join (bsOf L) [32] ++ [10]) w = Q' := ⟨_, rfl⟩
  rw [hQ]
  have HJ := Lib.hid (join_any v L ⟨#[32]⟩ w hT hc hN (by rw [show (⟨#[32]⟩ : ByteArray).data.toList = [32] from rfl]; exact Nat.le_trans hl (by omega)))
  rw [show (⟨#[32]⟩ : ByteArray).data.toList = [32] from rfl, show L.map (·.data.toList) = bsOf L from rfl] at HJ
  obtain ⟨J, hJ⟩ : ∃ J, Lib.join (bsOf L) [32] = J := ⟨_, rfl⟩
  rw [hJ] at hl hQ HJ
  have HS : Hid (∀ w1, Below w.heap.size w w1 → Calls Tryz.prog 97 #[.pointer (some ⟨t, 0, none⟩), .string ((⟨J.toArray⟩ : ByteArray) ++ ⟨#[10]⟩)] w1 fun e w' => e = .returned (.tuple #[]) ∧ Q' (.returned (.tuple #[])) w') := fun w1 hb1 => by
    refine (say_any B t f cwd name inn st (.slice none 0 0) [] l m _ w1 (h.below hb1) ?_ (by have := hb1.size; omega)).mono ?_
    · rw [← dl, ba_app]; simp; omega
    · rintro e w2 ⟨rfl, o', h2, h3⟩
      refine ⟨rfl, ?_⟩
      rw [← hQ]
      rw [ba_app, List.nil_append] at h2
      exact ⟨rfl, o', h2, ((Only.of_below (S := fun k => k = t) hb1).trans h3 (fun _ h => h) (fun i _ hi => by rcases hi with e | e; exact e; cases e))⟩
  have hjs : (⟨J.toArray⟩ : ByteArray).size = J.length := rfl
  generalize (⟨J.toArray⟩ : ByteArray) = JB at HJ HS hjs
  obtain ⟨a, c, rfl, hx⟩ := hT.form
  clear hT hc hJ hQ h hB
  cases L with
  | nil =>
    simp only [List.length_nil] at HJ ⊢
    clear hx hh
    go_enter Tryz.func52, Tryz.ntmps52
    go_wp2_with (first
      | (go_at_call 98; refine HJ.out.mono ?_; rintro e w1 ⟨rfl, h1⟩; have H1 := Lib.hid h1; clear h1; simp only [])
      | (go_at_call 97; refine (HS.out _ H1.out).mono ?_; rintro e w2 ⟨rfl, hq⟩; have HQ2 := Lib.hid hq; clear hq; simp only []))
    go_end0
    exact HQ2.out
  | cons x r =>
    obtain ⟨b, off, rfl, hbk, hc0⟩ := hx 0 (by simp)
    have hne : ¬ x = optN := fun e => hh (by rw [e]; rfl)
    simp only [List.getElem_cons_zero, Nat.add_zero] at hc0
    obtain ⟨n, hn⟩ : ∃ n, (x :: r).length = n := ⟨_, rfl⟩
    have hn1 : 0 < n := by rw [← hn]; simp
    rw [hn] at HJ ⊢
    have d0 : decide ((0 : Int) < (n : Int)) = true := decide_eq_true (by omega)
    have hnI : (0 : Int) < (n : Int) := by omega
    clear hx hh hbk hn
    have g1 : (x.toList == [45, 110]) = false := opt_ne hne
    clear hne
    go_enter Tryz.func52, Tryz.ntmps52
    go_wp2_with (first
      | (go_at_call 98; refine HJ.out.mono ?_; rintro e w1 ⟨rfl, h1⟩; have H1 := Lib.hid h1; clear h1; simp only [])
      | (go_at_call 97; refine (HS.out _ H1.out).mono ?_; rintro e w2 ⟨rfl, hq⟩; have HQ2 := Lib.hid hq; clear hq; simp only []))
    go_end0
    exact HQ2.out
set_option maxHeartbeats 8000000 in
theorem echo_bare (B t : Nat) (f : Value) (cwd name : ByteArray) (inn : Value) (st : Int) (l : Value) (m : Bz) (v : Value) (L : List ByteArray) (w : World) (h : Tool w B t f cwd name inn st (.slice none 0 0) [] l m) (hT : Txt w v (optN :: L)) (hc : ∀ a c, v = .slice a (L.length + 1) c → L.length + 1 ≤ c)
    (hN : L.length ≤ 1000000) (hl : (Lib.join (bsOf L) [32]).length ≤ 65000) (hB : B ≤ w.heap.size) :
    Calls Tryz.prog 52 #[.pointer (some ⟨t, 0, none⟩), v] w (EchoP B t f cwd name inn st l m (Lib.join (bsOf L) [32]) w) := by
  obtain ⟨Q', hQ⟩ : ∃ Q', EchoP B t f cwd name inn st l m (Lib.join (bsOf L) [32]) w = Q' := ⟨_, rfl⟩
  rw [hQ]
  obtain ⟨a, c, rfl, hx⟩ := hT.form
  have hcc : L.length + 1 ≤ c := hc a c rfl
  obtain ⟨b, off, rfl, hbk, hc0⟩ := hx 0 (by simp)
  simp only [List.getElem_cons_zero, Nat.add_zero] at hc0
  have HJ : Hid (∀ off' c', (L.length = 0 ∨ off' = off + 1) → L.length ≤ c' → Calls Tryz.prog 98 #[.slice (some ⟨b, off', none⟩) L.length c', .string ⟨#[32]⟩] w fun e w' => e = .returned (.string ⟨(Lib.join (bsOf L) [32]).toArray⟩) ∧ Below w.heap.size w w') := fun off' c' ho hcl => by
    have hT2 : Txt w (.slice (some ⟨b, off', none⟩) L.length c') L := ⟨_, c', rfl, fun i hi => by
      rcases ho with e | rfl
      · omega
      · obtain ⟨b2, off2, e1, e2, e3⟩ := hx (i + 1) (by rw [List.length_cons]; omega)
        injection e1 with e1
        injection e1 with e4 e5 _
        subst e4; subst e5
        refine ⟨_, _, rfl, e2, ?_⟩
        rw [show off + 1 + i = off + (i + 1) by omega, e3]; rfl⟩
    have := join_any _ L ⟨#[32]⟩ w hT2 (fun a c e => by injection e with _ _ e; omega) hN (by rw [show (⟨#[32]⟩ : ByteArray).data.toList = [32] from rfl]; exact Nat.le_trans hl (by omega))
    rw [show (⟨#[32]⟩ : ByteArray).data.toList = [32] from rfl, show L.map (·.data.toList) = bsOf L from rfl] at this
    exact this
  obtain ⟨J, hJ⟩ : ∃ J, Lib.join (bsOf L) [32] = J := ⟨_, rfl⟩
  rw [hJ] at hl hQ HJ
  have HS : Hid (∀ w1, Below w.heap.size w w1 → Calls Tryz.prog 97 #[.pointer (some ⟨t, 0, none⟩), .string (⟨J.toArray⟩ : ByteArray)] w1 fun e w' => e = .returned (.tuple #[]) ∧ Q' (.returned (.tuple #[])) w') := fun w1 hb1 => by
    refine (say_any B t f cwd name inn st (.slice none 0 0) [] l m _ w1 (h.below hb1) ?_ (by have := hb1.size; omega)).mono ?_
    · rw [← dl]; simp; omega
    · rintro e w2 ⟨rfl, o', h2, h3⟩
      refine ⟨rfl, ?_⟩
      rw [← hQ]
      rw [List.nil_append] at h2
      exact ⟨rfl, o', h2, ((Only.of_below (S := fun k => k = t) hb1).trans h3 (fun _ h => h) (fun i _ hi => by rcases hi with e | e; exact e; cases e))⟩
  have hjs : (⟨J.toArray⟩ : ByteArray).size = J.length := rfl
  have hap : (⟨J.toArray⟩ : ByteArray) ++ (⟨#[]⟩ : ByteArray) = ⟨J.toArray⟩ := by
    refine ByteArray.ext ?_
    simp
  generalize (⟨J.toArray⟩ : ByteArray) = JB at HJ HS hjs hap
  have hn1 : ((L.length + 1 : Nat) : Int) = (L.length : Int) + 1 := by omega
  rw [List.length_cons]
  clear hT hc hJ hQ h hB hx hbk
  have g1 := opt_yes
  generalize optN = x at hc0 g1
  obtain ⟨n, hn⟩ : ∃ n, L.length = n := ⟨_, rfl⟩
  rw [hn] at HJ hn1 hcc ⊢
  have d0 : decide ((0 : Int) < ((n + 1 : Nat) : Int)) = true := decide_eq_true (by omega)
  have hnI : (0 : Int) < ((n + 1 : Nat) : Int) := by omega
  clear hn
  by_cases h1c : c = 1
  · subst h1c
    have HA := Lib.hid (HJ.out off 0 (by omega) (by omega))
    clear HJ hcc
    go_enter Tryz.func52, Tryz.ntmps52
    go_wp2_with (first
      | (go_at_call 98; refine HA.out.mono ?_; rintro e w1 ⟨rfl, h1⟩; have H1 := Lib.hid h1; clear h1; simp only [])
      | (go_at_call 97; try rw [hap]
         refine (HS.out _ H1.out).mono ?_; rintro e w2 ⟨rfl, hq⟩; have HQ2 := Lib.hid hq; clear hq; simp only []))
    go_end0
    exact HQ2.out
  · have HA := Lib.hid (HJ.out (off + 1) (c - 1) (by omega) (by omega))
    clear HJ
    go_enter Tryz.func52, Tryz.ntmps52
    go_wp2_with (first
      | (go_at_call 98; refine HA.out.mono ?_; rintro e w1 ⟨rfl, h1⟩; have H1 := Lib.hid h1; clear h1; simp only [])
      | (go_at_call 97; try rw [hap]
         refine (HS.out _ H1.out).mono ?_; rintro e w2 ⟨rfl, hq⟩; have HQ2 := Lib.hid hq; clear hq; simp only []))
    go_end0
    exact HQ2.out
end Go.Proofs.YtcmjpkfinbakkaaGreatDoor

namespace Go.Proofs.YtcmjpkfinbakkaaGreatDoor
open Go.RowKit Go.ChangeShapes Go.WideShapes
set_option linter.unusedVariables false
set_option maxRecDepth 100000

theorem conv_own {w : World} {B : Nat} {v : Value} {bs : Bz} (h : w.ownsRow B 5 1 v bs.length (u8s bs)) : (convert 41 9 v).run Tryz.prog w = .ok (.string ⟨bs.toArray⟩) w := by
  rcases h.2 with ⟨rfl, h0⟩ | ⟨g, cap, cur, rfl, h2, h3, h4, _⟩
  · have hbs : bs = [] := List.eq_nil_of_length_eq_zero h0
    subst hbs
    have := run_convert_bytes_string (P := Tryz.prog) w 41 9 5 none 0 0 Tryz.underlying41 Tryz.underlying5 Tryz.underlying9
    rw [this]
    rfl
  · refine run_convert_bytes_back (P := Tryz.prog) w 41 9 5 ⟨g, 0, none⟩ cap bs Tryz.underlying41 Tryz.underlying5 Tryz.underlying9 fun j hj => ?_
    exact h.cells (g := g) rfl j _ (u8s_at hj)
def RunP (bs : Bz) (w : World) (e : Ending) (w' : World) : Prop := ∃ o', e = .returned (.agg #[.int .i64 0, o', .slice none 0 0]) ∧ w'.ownsRow w.heap.size 5 1 o' bs.length (u8s bs) ∧ Below w.heap.size w w'
def nEcho : ByteArray := ⟨#[101, 99, 104, 111]⟩
set_option pp.maxSteps 4000 in
set_option maxHeartbeats 8000000 in
theorem run_echo (f : Value) (cwd : ByteArray) (v inn : Value) (bs : Bz) (w : World) (hf : ∃ k, f = .pointer k) (hv : ∃ a n c, v = .slice a n c) (hi : ∃ a n c, inn = .slice a n c)
    (HE : ∀ (t : Nat) (w1 : World), Below w.heap.size w w1 → Tool w1 w.heap.size t f cwd nEcho inn 0 (.slice none 0 0) [] (.slice none 0 0) [] → Calls Tryz.prog 52 #[.pointer (some ⟨t, 0, none⟩), v] w1 (EchoP w.heap.size t f cwd nEcho inn 0 (.slice none 0 0) [] bs w1)) :
    Calls Tryz.prog 23 #[f, .string cwd, .string nEcho, v, inn] w (RunP bs w) := by
  obtain ⟨fk, rfl⟩ := hf
  obtain ⟨va, vn, vc, rfl⟩ := hv
  obtain ⟨ia, i_n, ic, rfl⟩ := hi
  obtain ⟨Q', hQ⟩ : ∃ Q', RunP bs w = Q' := ⟨_, rfl⟩
  rw [hQ]
  have HQ := Lib.hid hQ
  obtain ⟨W0, hW0⟩ : ∃ W0, w.alloc (.cells #[.int .i64 0, .slice none 0 0, .slice none 0 0] 43) = W0 := ⟨_, rfl⟩
  obtain ⟨W1, hW1⟩ : ∃ W1, W0.alloc (.cells #[.pointer fk, .string cwd, .string nEcho, .slice ia i_n ic, .int .i64 0, .slice none 0 0, .slice none 0 0] 98) = W1 := ⟨_, rfl⟩
  have hs0 : W0.heap.size = w.heap.size + 1 := by rw [← hW0]; simp
  have hb0 : Below w.heap.size w W0 := by rw [← hW0]; exact (Below.refl _ _).alloc (Nat.le_refl _) _
  have hb1 : Below w.heap.size w W1 := by rw [← hW1]; exact hb0.alloc (by omega) _
  have hk0 : W0.heap[w.heap.size]? = some (.cells [.int .i64 0, .slice none 0 0, .slice none 0 0].toArray 43 (0, 0)) := by rw [← hW0]; exact heap_alloc_new _ _
  have hk1 : W1.heap[w.heap.size]? = some (.cells [.int .i64 0, .slice none 0 0, .slice none 0 0].toArray 43 (0, 0)) := by
    rw [← hW1, (MapKept.heap_alloc _ _).2 _ (by omega)]; exact hk0
  have ht1 : W1.heap[w.heap.size + 1]? = some (.cells (tlC (.pointer fk) cwd nEcho (.slice ia i_n ic) 0 (.slice none 0 0) (.slice none 0 0)).toArray 98 (0, 0)) := by
    rw [← hW1, ← hs0]; exact heap_alloc_new _ _
  have HW1 := Lib.hid hW1
  have HW0 := Lib.hid hW0
  have hsz1 : w.heap.size + 1 < W1.heap.size := blk_lt ht1
  have HC := Lib.hid (HE (w.heap.size + 1) W1 hb1 ⟨ht1, by omega, World.ownsRow_nil _ _ _ _, World.ownsRow_nil _ _ _ _, (fun e => by cases e), (fun e => by cases e), (fun k e => by cases e)⟩)
  have HK1 := Lib.hid hk1
  have HB1 := Lib.hid hb1
  clear hQ HE hW0 hW1 hs0 hb0 hb1 hk0 hk1 ht1
  unfold nEcho at HC HW1 ⊢
  go_enter Tryz.func23, Tryz.ntmps23
  go_wp2_with (go_at_call 52; rw [HW0.out, HW1.out]; refine HC.out.mono ?_; rintro e w2 ⟨rfl, o', h2, h3⟩; obtain ⟨oa, oc, rfl, _⟩ := own_slice h2.out; have hk2 := (h3.block w.heap.size (by omega) (by omega)).trans HK1.out; have c0 : w2.cell? ⟨w.heap.size, 0, none⟩ = some (.int .i64 0) := cell_of hk2 0; have c1 : w2.cell? ⟨w.heap.size, 1, none⟩ = some (.slice none 0 0) := cell_of hk2 1; have c2 : w2.cell? ⟨w.heap.size, 2, none⟩ = some (.slice none 0 0) := cell_of hk2 2; have f0 := free_of hk2 0; have f1 := free_of hk2 1; have f2 := free_of hk2 2; have c4 : w2.cell? ⟨w.heap.size + 1, 4, none⟩ = some (.int .i64 0) := cell_of h2.blk 4; have c5 : w2.cell? ⟨w.heap.size + 1, 5, none⟩ = some (.slice oa bs.length oc) := cell_of h2.blk 5; have c6 : w2.cell? ⟨w.heap.size + 1, 6, none⟩ = some (.slice none 0 0) := cell_of h2.blk 6; have H2 := Lib.hid h2; have H3 := Lib.hid h3; have HK2 := Lib.hid hk2; clear h2 h3 hk2; simp only [])
  have hs := set_of (set_of (set_of HK2.out 0 (.int .i64 0)) 1 (.slice oa bs.length oc)) 2 (.slice none 0 0)
  have hb3 : Below w.heap.size w (((w2.setCell ⟨w.heap.size, 0, none⟩ (.int .i64 0)).setCell ⟨w.heap.size, 1, none⟩ (.slice oa bs.length oc)).setCell ⟨w.heap.size, 2, none⟩ (.slice none 0 0)) := by
    have hb2 : Below w.heap.size w w2 := HB1.out.trans (H3.out.below (fun k e => by omega) (by omega))
    exact ((hb2.setCell (Nat.le_refl _) _).setCell (Nat.le_refl _) _).setCell (Nat.le_refl _) _
  have hrow : (((w2.setCell ⟨w.heap.size, 0, none⟩ (.int .i64 0)).setCell ⟨w.heap.size, 1, none⟩ (.slice oa bs.length oc)).setCell ⟨w.heap.size, 2, none⟩ (.slice none 0 0)).ownsRow w.heap.size 5 1 (.slice oa bs.length oc) bs.length (u8s bs) := by
    refine row_only H2.out.out fun g hg _ => ?_
    have hne : g ≠ w.heap.size := by
      intro e
      rcases H2.out.out.2 with ⟨h1, _⟩ | ⟨g', cap, cur, h1, _, h4, _⟩
      · rw [h1] at hg; cases hg
      · rw [h1] at hg
        have hgg : g' = g := by simpa [Value.ownBlock] using hg
        rw [hgg, e, HK2.out] at h4
        injection h4 with h4
        injection h4 with _ h4 _
        exact absurd h4 (by decide)
    rw [Below.heap_setCell _ _ _ _ hne, Below.heap_setCell _ _ _ _ hne, Below.heap_setCell _ _ _ _ hne]
  generalize (((w2.setCell ⟨w.heap.size, 0, none⟩ (.int .i64 0)).setCell ⟨w.heap.size, 1, none⟩ (.slice oa bs.length oc)).setCell ⟨w.heap.size, 2, none⟩ (.slice none 0 0)) = w3 at *
  have d0 : w3.cell? ⟨w.heap.size, 0, none⟩ = some (.int .i64 0) := cell_of hs 0
  have d1 : w3.cell? ⟨w.heap.size, 1, none⟩ = some (.slice oa bs.length oc) := cell_of hs 1
  have d2 : w3.cell? ⟨w.heap.size, 2, none⟩ = some (.slice none 0 0) := cell_of hs 2
  refine bodyPost_ret (v := .agg #[.int .i64 0, .slice oa bs.length oc, .slice none 0 0]) ?_ rfl ?_
  · simp [results, Tryz.results23, go_sem, d0, d1, d2]
  · rw [← HQ.out]
    exact ⟨_, rfl, hrow, hb3⟩
end Go.Proofs.YtcmjpkfinbakkaaGreatDoor

namespace Go.Proofs.YtcmjpkfinbakkaaGreatDoor
open Go.RowKit Go.ChangeShapes Go.WideShapes
set_option linter.unusedVariables false
set_option maxRecDepth 100000

set_option maxHeartbeats 8000000 in
theorem new_some (n b : Int) (w : World) : Calls Tryz.prog 14 #[.int .i64 n, .int .i64 b] w fun e w' => (∃ k, e = .returned (.pointer k)) ∧ Below w.heap.size w w' := by
  go_enter Tryz.func14, Tryz.ntmps14
  go_wp2_with fail
  go_ret
  exact ⟨⟨_, rfl⟩, (Below.refl _ _).alloc (Nat.le_refl _) _⟩
set_option maxHeartbeats 8000000 in
theorem has_cat (w : World) : Calls Tryz.prog 51 #[.string ⟨#[99, 97, 116]⟩] w fun e w' => e = .returned (.bool true) ∧ w' = w := by
  go_enter Tryz.func51, Tryz.ntmps51
  go_wp2_with fail
  go_ret
  exact ⟨rfl, rfl⟩
set_option maxHeartbeats 8000000 in
theorem has_dog (w : World) : Calls Tryz.prog 51 #[.string ⟨#[100, 111, 103]⟩] w fun e w' => e = .returned (.bool false) ∧ w' = w := by
  go_enter Tryz.func51, Tryz.ntmps51
  go_wp2_with fail
  go_ret
  exact ⟨rfl, rfl⟩
theorem conv_agg {w : World} {B : Nat} {v : Value} {bs : Bz} (h : w.ownsRow B 5 1 v bs.length (u8s bs)) {S : ByteArray} (hS : S.data.toList = bs) : (convert 41 9 v).run Tryz.prog w = .ok (.string S) w := by
  rw [conv_own h, show (⟨bs.toArray⟩ : ByteArray) = S by rw [← hS]]
theorem txt2 (w : World) (x y : ByteArray) : Txt (w.alloc (.cells #[.string x, .string y] 9)) (.slice (some ⟨w.heap.size, 0, none⟩) 2 2) [x, y] :=
  ⟨_, 2, rfl, fun i hi => by
    refine ⟨w.heap.size, 0, rfl, by simp, ?_⟩
    simp only [World.cell?, heap_alloc_new w]
    match i, hi with
    | 0, _ => rfl
    | 1, _ => rfl⟩
set_option pp.maxSteps 4000 in
set_option maxHeartbeats 8000000 in
theorem alive_any (w : World) : Calls Tryz.prog 22 #[] w fun e w' => e = .returned (.bool true) ∧ Below w.heap.size w w' := by
  have HN := Lib.hid (fun w => new_some 1 1 w)
  have HC := Lib.hid has_cat
  have HD := Lib.hid has_dog
  have HR : Hid (∀ (k : Option Addr) (w1 : World), Calls Tryz.prog 23 #[.pointer k, .string ⟨#[47]⟩, .string ⟨#[101, 99, 104, 111]⟩, .slice (some ⟨w1.heap.size, 0, none⟩) 2 2, .slice none 0 0] (w1.alloc (.cells #[.string ⟨#[97]⟩, .string ⟨#[98]⟩] 9)) (RunP [97, 32, 98, 10] (w1.alloc (.cells #[.string ⟨#[97]⟩, .string ⟨#[98]⟩] 9)))) := fun k w1 =>
    run_echo (.pointer k) ⟨#[47]⟩ (.slice (some ⟨w1.heap.size, 0, none⟩) 2 2) (.slice none 0 0) _ _ ⟨k, rfl⟩ ⟨_, _, _, rfl⟩ ⟨_, _, _, rfl⟩ fun t w2 hb hT =>
      echo_plain _ t _ _ _ _ _ _ _ _ [⟨#[97]⟩, ⟨#[98]⟩] w2 hT ((txt2 w1 _ _).below hb) (fun a c e => by injection e with _ _ e; simp; omega) (by simp) (by decide) (by decide) (by have := hb.size; omega)
  go_enter Tryz.func22, Tryz.ntmps22
  go_wp2_with (first
    | (go_at_call 14; refine (HN.out _).mono ?_; rintro e w1 ⟨⟨k, rfl⟩, h1⟩; have H1 := Lib.hid h1; clear h1; simp only [])
    | (go_at_call 23; refine (HR.out _ _).mono ?_; rintro e w2 ⟨o', rfl, h2, h3⟩; obtain ⟨oa, oc, rfl, _⟩ := own_slice h2; have hcv : (convert 41 9 (.slice oa 4 oc)).run Tryz.prog (w2.alloc (.cells #[.int .i64 0, .slice oa 4 oc, .slice none 0 0] 43)) = .ok (.string ⟨#[97, 32, 98, 10]⟩) _ := conv_agg (own_below h2 ((Below.refl _ _).alloc (Nat.le_refl _) _)) rfl; have H2 := Lib.hid h2; have H3 := Lib.hid h3; clear h2 h3; simp only [])
    | (go_at_call 51; first
        | ((with_reducible refine (HC.out _).mono ?_); rintro e w3 ⟨rfl, h3⟩; obtain rfl := h3.symm; simp only [])
        | ((with_reducible refine (HD.out _).mono ?_); rintro e w3 ⟨rfl, h3⟩; obtain rfl := h3.symm; simp only [])))
  go_ret
  exact ⟨rfl, ((H1.out.alloc H1.out.size _).trans (H3.out.mono (by have := H1.out.size; simp; omega))).alloc (by have := H1.out.size; have := H3.out.size; simp at this; omega) _⟩
end Go.Proofs.YtcmjpkfinbakkaaGreatDoor
