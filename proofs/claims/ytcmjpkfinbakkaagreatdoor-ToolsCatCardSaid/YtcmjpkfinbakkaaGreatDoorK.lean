import Derived.Test.YtcmjpkfinbakkaaGreatDoorRO
import Derived.Test.YtcmjpkfinbakkaaGreatDoorC
namespace Go.Proofs.YtcmjpkfinbakkaaGreatDoor
open Go.RowKit Go.ChangeShapes Go.WideShapes
set_option linter.unusedVariables false
set_option maxRecDepth 100000

def nCalc : ByteArray := ⟨#[99, 97, 108, 99]⟩
/-- A utility's end: its status, what it told, what it complained of. -/
def UtilP (B t : Nat) (f : Value) (cwd name : ByteArray) (inn : Value) (st : Int) (s m : Bz) (w : World) (e : Ending) (w' : World) : Prop :=
  e = .returned (.tuple #[]) ∧ ∃ o' l', Tool w' B t f cwd name inn st o' s l' m ∧ Only (fun k => k = t) w w'
/-- What calc tells: status, text, complaint. -/
def calcS (a op b : ByteArray) : Int × Bz × Bz :=
  if (Fl.ofL a.data.toList).2 = false then (2, [], (logB nCalc a 2).data.toList)
  else if (Fl.ofL b.data.toList).2 = false then (2, [], (logB nCalc b 2).data.toList)
  else if (Fl.opV op.data.toList (Fl.ofL a.data.toList).1 (Fl.ofL b.data.toList).1).isSome = true then (0, Fl.textL ((Fl.opV op.data.toList (Fl.ofL a.data.toList).1 (Fl.ofL b.data.toList).1).getD 0) ++ [10], [])
  else if (Fl.isV op.data.toList (Fl.ofL a.data.toList).1 (Fl.ofL b.data.toList).1).isSome = false then (2, [], (logB nCalc op 2).data.toList)
  else if (Fl.isV op.data.toList (Fl.ofL a.data.toList).1 (Fl.ofL b.data.toList).1).getD false = false then (1, [], [])
  else (0, [], [])
theorem only_ext {t : Nat} {a b c : World} (h : Below a.heap.size a b) (k : Only (fun k => k = t) b c) : Only (fun k => k = t) a c :=
  (Only.of_below (S := fun k => k = t) h).trans k (fun _ h => h) (fun _ _ h => h)
set_option maxHeartbeats 8000000 in
theorem calc_a (B t : Nat) (f : Value) (cwd : ByteArray) (inn : Value) (v : Value) (a op b : ByteArray) (w : World) (h : Tool w B t f cwd nCalc inn 0 (.slice none 0 0) [] (.slice none 0 0) []) (hT : Txt w v [a, op, b]) (ha : a.size ≤ 1000) (ho : op.size ≤ 1000) (hb : b.size ≤ 1000) (hTab : Fl.Tabs w) (hB : B ≤ w.heap.size)
    (xa xb z : Nat) (ka kb kz kq q : Bool)
    (HOa : Hid (∀ w, Calls Tryz.prog 114 #[.string a] w fun e w' => e = .returned (.tuple #[.int .u64 xa, .bool ka]) ∧ Below w.heap.size w w'))
    (HOb : Hid (∀ w, Calls Tryz.prog 114 #[.string b] w fun e w' => e = .returned (.tuple #[.int .u64 xb, .bool kb]) ∧ Below w.heap.size w w'))
    (HOp : Hid (∀ w, Calls Tryz.prog 115 #[.string op, .int .u64 xa, .int .u64 xb] w fun e w' => e = .returned (.tuple #[.int .u64 z, .bool kz]) ∧ Below w.heap.size w w'))
    (HIs : Hid (∀ w, Calls Tryz.prog 116 #[.string op, .int .u64 xa, .int .u64 xb] w fun e w' => e = .returned (.tuple #[.bool q, .bool kq]) ∧ w' = w))
    (ka1 : ka = false) :
    Calls Tryz.prog 64 #[.pointer (some ⟨t, 0, none⟩), v] w (UtilP B t f cwd nCalc inn 2 [] (logB nCalc a 2).data.toList w) := by
  obtain ⟨Q', hQ⟩ : ∃ Q', UtilP B t f cwd nCalc inn 2 [] (logB nCalc a 2).data.toList w = Q' := ⟨_, rfl⟩
  rw [hQ]
  obtain ⟨va, vc, rfl, hx⟩ := hT.form
  obtain ⟨g, off, rfl, _, _⟩ := hx 0 (by simp)
  have HX : Hid (∀ w', Below w.heap.size w w' → w'.cell? ⟨g, off, none⟩ = some (.string a) ∧ w'.cell? ⟨g, off + 1, none⟩ = some (.string op) ∧ w'.cell? ⟨g, off + 2, none⟩ = some (.string b)) := fun w' hw => by
    obtain ⟨b0, o0, e0, _, c0⟩ := (hT.below hw).form.choose_spec.choose_spec.2 0 (by simp)
    have hf := (hT.below hw).form
    obtain ⟨va2, vc2, e, hx2⟩ := hf
    injection e with e1 _ _
    subst e1
    obtain ⟨g0, f0, e0, _, c0⟩ := hx2 0 (by simp)
    obtain ⟨g1, f1, e1, _, c1⟩ := hx2 1 (by simp)
    obtain ⟨g2, f2, e2, _, c2⟩ := hx2 2 (by simp)
    injection e0 with e0; injection e0 with a0 b0 _; subst a0; subst b0
    injection e1 with e1; injection e1 with a1 b1 _; subst a1; subst b1
    injection e2 with e2; injection e2 with a2 b2 _; subst a2; subst b2
    exact ⟨by simpa using c0, by simpa using c1, by simpa using c2⟩
  obtain ⟨c0, c1, c2⟩ := HX.out w (Below.refl _ _)
  have HT := Lib.hid h
  have HTB := Lib.hid hTab
  subst ka1
  have HCP : Hid (∀ w', Below w.heap.size w w' → Calls Tryz.prog 113 #[.pointer (some ⟨t, 0, none⟩), .int .i64 2, .string a, .int .i64 2] w' fun e w'' => e = .returned (.tuple #[]) ∧ Q' (.returned (.tuple #[])) w'') := fun w' hw => by
    refine (complain_any B t f cwd nCalc inn 2 0 (.slice none 0 0) [] a 2 w' (h.below hw) (by decide) (by assumption) (by decide) (by decide)).mono ?_
    rintro e w'' ⟨rfl, l', h2, h3⟩
    refine ⟨rfl, ?_⟩
    rw [← hQ]
    exact ⟨rfl, _, l', h2, only_ext hw h3⟩
  have HQ := Lib.hid hQ
  clear hx hT h hTab hQ
  simp only [List.length_cons, List.length_nil, Nat.zero_add, Nat.reduceAdd]
  go_enter Tryz.func64, Tryz.ntmps64
  go_wp2_with (first
    | (go_at_call 114; first
        | ((with_reducible refine (HOa.out _).mono ?_); rintro e w1 ⟨rfl, h1⟩; have H1 := Lib.hid h1; obtain ⟨c0, c1, c2⟩ := HX.out w1 h1; clear h1; simp only [])
        | ((with_reducible refine (HOb.out _).mono ?_); rintro e w2 ⟨rfl, h2⟩; have H2 := Lib.hid (H1.out.trans (h2.mono H1.out.size)); obtain ⟨c0, c1, c2⟩ := HX.out w2 H2.out; clear h2; simp only []))
    | (go_at_call 115; refine (HOp.out _).mono ?_; rintro e w3 ⟨rfl, h3⟩; have H3 := Lib.hid (H2.out.trans (h3.mono H2.out.size)); obtain ⟨c0, c1, c2⟩ := HX.out w3 H3.out; clear h3; simp only [])
    | (go_at_call 116; refine (HIs.out _).mono ?_; rintro e w4 ⟨rfl, h4⟩; obtain rfl := h4.symm; simp only [])
    | (go_at_call 113; refine (HCP.out _ H3.out).mono ?_; rintro e w5 ⟨rfl, hq⟩; have HQ2 := Lib.hid hq; clear hq; simp only []))
  go_end0
  exact HQ2.out

set_option maxHeartbeats 8000000 in
theorem calc_b (B t : Nat) (f : Value) (cwd : ByteArray) (inn : Value) (v : Value) (a op b : ByteArray) (w : World) (h : Tool w B t f cwd nCalc inn 0 (.slice none 0 0) [] (.slice none 0 0) []) (hT : Txt w v [a, op, b]) (ha : a.size ≤ 1000) (ho : op.size ≤ 1000) (hb : b.size ≤ 1000) (hTab : Fl.Tabs w) (hB : B ≤ w.heap.size)
    (xa xb z : Nat) (ka kb kz kq q : Bool)
    (HOa : Hid (∀ w, Calls Tryz.prog 114 #[.string a] w fun e w' => e = .returned (.tuple #[.int .u64 xa, .bool ka]) ∧ Below w.heap.size w w'))
    (HOb : Hid (∀ w, Calls Tryz.prog 114 #[.string b] w fun e w' => e = .returned (.tuple #[.int .u64 xb, .bool kb]) ∧ Below w.heap.size w w'))
    (HOp : Hid (∀ w, Calls Tryz.prog 115 #[.string op, .int .u64 xa, .int .u64 xb] w fun e w' => e = .returned (.tuple #[.int .u64 z, .bool kz]) ∧ Below w.heap.size w w'))
    (HIs : Hid (∀ w, Calls Tryz.prog 116 #[.string op, .int .u64 xa, .int .u64 xb] w fun e w' => e = .returned (.tuple #[.bool q, .bool kq]) ∧ w' = w))
    (ka1 : ka = true) (kb1 : kb = false) :
    Calls Tryz.prog 64 #[.pointer (some ⟨t, 0, none⟩), v] w (UtilP B t f cwd nCalc inn 2 [] (logB nCalc b 2).data.toList w) := by
  obtain ⟨Q', hQ⟩ : ∃ Q', UtilP B t f cwd nCalc inn 2 [] (logB nCalc b 2).data.toList w = Q' := ⟨_, rfl⟩
  rw [hQ]
  obtain ⟨va, vc, rfl, hx⟩ := hT.form
  obtain ⟨g, off, rfl, _, _⟩ := hx 0 (by simp)
  have HX : Hid (∀ w', Below w.heap.size w w' → w'.cell? ⟨g, off, none⟩ = some (.string a) ∧ w'.cell? ⟨g, off + 1, none⟩ = some (.string op) ∧ w'.cell? ⟨g, off + 2, none⟩ = some (.string b)) := fun w' hw => by
    obtain ⟨b0, o0, e0, _, c0⟩ := (hT.below hw).form.choose_spec.choose_spec.2 0 (by simp)
    have hf := (hT.below hw).form
    obtain ⟨va2, vc2, e, hx2⟩ := hf
    injection e with e1 _ _
    subst e1
    obtain ⟨g0, f0, e0, _, c0⟩ := hx2 0 (by simp)
    obtain ⟨g1, f1, e1, _, c1⟩ := hx2 1 (by simp)
    obtain ⟨g2, f2, e2, _, c2⟩ := hx2 2 (by simp)
    injection e0 with e0; injection e0 with a0 b0 _; subst a0; subst b0
    injection e1 with e1; injection e1 with a1 b1 _; subst a1; subst b1
    injection e2 with e2; injection e2 with a2 b2 _; subst a2; subst b2
    exact ⟨by simpa using c0, by simpa using c1, by simpa using c2⟩
  obtain ⟨c0, c1, c2⟩ := HX.out w (Below.refl _ _)
  have HT := Lib.hid h
  have HTB := Lib.hid hTab
  subst ka1
  subst kb1
  have HCP : Hid (∀ w', Below w.heap.size w w' → Calls Tryz.prog 113 #[.pointer (some ⟨t, 0, none⟩), .int .i64 2, .string b, .int .i64 2] w' fun e w'' => e = .returned (.tuple #[]) ∧ Q' (.returned (.tuple #[])) w'') := fun w' hw => by
    refine (complain_any B t f cwd nCalc inn 2 0 (.slice none 0 0) [] b 2 w' (h.below hw) (by decide) (by assumption) (by decide) (by decide)).mono ?_
    rintro e w'' ⟨rfl, l', h2, h3⟩
    refine ⟨rfl, ?_⟩
    rw [← hQ]
    exact ⟨rfl, _, l', h2, only_ext hw h3⟩
  have HQ := Lib.hid hQ
  clear hx hT h hTab hQ
  simp only [List.length_cons, List.length_nil, Nat.zero_add, Nat.reduceAdd]
  go_enter Tryz.func64, Tryz.ntmps64
  go_wp2_with (first
    | (go_at_call 114; first
        | ((with_reducible refine (HOa.out _).mono ?_); rintro e w1 ⟨rfl, h1⟩; have H1 := Lib.hid h1; obtain ⟨c0, c1, c2⟩ := HX.out w1 h1; clear h1; simp only [])
        | ((with_reducible refine (HOb.out _).mono ?_); rintro e w2 ⟨rfl, h2⟩; have H2 := Lib.hid (H1.out.trans (h2.mono H1.out.size)); obtain ⟨c0, c1, c2⟩ := HX.out w2 H2.out; clear h2; simp only []))
    | (go_at_call 115; refine (HOp.out _).mono ?_; rintro e w3 ⟨rfl, h3⟩; have H3 := Lib.hid (H2.out.trans (h3.mono H2.out.size)); obtain ⟨c0, c1, c2⟩ := HX.out w3 H3.out; clear h3; simp only [])
    | (go_at_call 116; refine (HIs.out _).mono ?_; rintro e w4 ⟨rfl, h4⟩; obtain rfl := h4.symm; simp only [])
    | (go_at_call 113; refine (HCP.out _ H3.out).mono ?_; rintro e w5 ⟨rfl, hq⟩; have HQ2 := Lib.hid hq; clear hq; simp only []))
  go_end0
  exact HQ2.out

set_option maxHeartbeats 8000000 in
theorem calc_op (B t : Nat) (f : Value) (cwd : ByteArray) (inn : Value) (v : Value) (a op b : ByteArray) (w : World) (h : Tool w B t f cwd nCalc inn 0 (.slice none 0 0) [] (.slice none 0 0) []) (hT : Txt w v [a, op, b]) (ha : a.size ≤ 1000) (ho : op.size ≤ 1000) (hb : b.size ≤ 1000) (hTab : Fl.Tabs w) (hB : B ≤ w.heap.size)
    (xa xb z : Nat) (ka kb kz kq q : Bool)
    (HOa : Hid (∀ w, Calls Tryz.prog 114 #[.string a] w fun e w' => e = .returned (.tuple #[.int .u64 xa, .bool ka]) ∧ Below w.heap.size w w'))
    (HOb : Hid (∀ w, Calls Tryz.prog 114 #[.string b] w fun e w' => e = .returned (.tuple #[.int .u64 xb, .bool kb]) ∧ Below w.heap.size w w'))
    (HOp : Hid (∀ w, Calls Tryz.prog 115 #[.string op, .int .u64 xa, .int .u64 xb] w fun e w' => e = .returned (.tuple #[.int .u64 z, .bool kz]) ∧ Below w.heap.size w w'))
    (HIs : Hid (∀ w, Calls Tryz.prog 116 #[.string op, .int .u64 xa, .int .u64 xb] w fun e w' => e = .returned (.tuple #[.bool q, .bool kq]) ∧ w' = w))
    (ka1 : ka = true) (kb1 : kb = true) (kz1 : kz = true) (hz : z < 18446744073709551616) :
    Calls Tryz.prog 64 #[.pointer (some ⟨t, 0, none⟩), v] w (UtilP B t f cwd nCalc inn 0 (Fl.textL z ++ [10]) [] w) := by
  obtain ⟨Q', hQ⟩ : ∃ Q', UtilP B t f cwd nCalc inn 0 (Fl.textL z ++ [10]) [] w = Q' := ⟨_, rfl⟩
  rw [hQ]
  obtain ⟨va, vc, rfl, hx⟩ := hT.form
  obtain ⟨g, off, rfl, _, _⟩ := hx 0 (by simp)
  have HX : Hid (∀ w', Below w.heap.size w w' → w'.cell? ⟨g, off, none⟩ = some (.string a) ∧ w'.cell? ⟨g, off + 1, none⟩ = some (.string op) ∧ w'.cell? ⟨g, off + 2, none⟩ = some (.string b)) := fun w' hw => by
    obtain ⟨b0, o0, e0, _, c0⟩ := (hT.below hw).form.choose_spec.choose_spec.2 0 (by simp)
    have hf := (hT.below hw).form
    obtain ⟨va2, vc2, e, hx2⟩ := hf
    injection e with e1 _ _
    subst e1
    obtain ⟨g0, f0, e0, _, c0⟩ := hx2 0 (by simp)
    obtain ⟨g1, f1, e1, _, c1⟩ := hx2 1 (by simp)
    obtain ⟨g2, f2, e2, _, c2⟩ := hx2 2 (by simp)
    injection e0 with e0; injection e0 with a0 b0 _; subst a0; subst b0
    injection e1 with e1; injection e1 with a1 b1 _; subst a1; subst b1
    injection e2 with e2; injection e2 with a2 b2 _; subst a2; subst b2
    exact ⟨by simpa using c0, by simpa using c1, by simpa using c2⟩
  obtain ⟨c0, c1, c2⟩ := HX.out w (Below.refl _ _)
  have HT := Lib.hid h
  have HTB := Lib.hid hTab
  subst ka1
  subst kb1
  subst kz1
  have HTX : Hid (∀ w', Below w.heap.size w w' → Calls Tryz.prog 117 #[.int .u64 z] w' fun e w'' => e = .returned (.string ⟨(Fl.textL z).toArray⟩) ∧ Below w'.heap.size w' w'') := fun w' hw => Fl.Text_any z hz w' (hTab.below hw)
  have hlen : (Fl.textL z).length ≤ 1000 := Fl.textL_len hz
  have hTd : (⟨(Fl.textL z).toArray⟩ : ByteArray).data.toList = Fl.textL z := rfl
  have hTs : (⟨(Fl.textL z).toArray⟩ : ByteArray).size = (Fl.textL z).length := rfl
  have HS : Hid (∀ w1, Below w.heap.size w w1 → Calls Tryz.prog 97 #[.pointer (some ⟨t, 0, none⟩), .string ((⟨(Fl.textL z).toArray⟩ : ByteArray) ++ ⟨#[10]⟩)] w1 fun e w' => e = .returned (.tuple #[]) ∧ Q' (.returned (.tuple #[])) w') := fun w1 hb1 => by
    refine (say_any B t f cwd nCalc inn 0 (.slice none 0 0) [] (.slice none 0 0) [] _ w1 (h.below hb1) ?_ (by have := hb1.size; omega)).mono ?_
    · rw [← dl, ba_app]; simp; omega
    · rintro e w2 ⟨rfl, o', h2, h3⟩
      refine ⟨rfl, ?_⟩
      rw [← hQ]
      rw [ba_app, List.nil_append] at h2
      exact ⟨rfl, o', _, h2, only_ext hb1 (h3.mono (fun i hi => by rcases hi with e | e; exact e; cases e))⟩
  have hz1 : ¬ (9223372036854775807 < (⟨(Fl.textL z).toArray⟩ : ByteArray).size + 1) := by rw [hTs]; omega
  generalize (⟨(Fl.textL z).toArray⟩ : ByteArray) = TX at HTX HS hz1
  clear hTd hTs hlen
  have HQ := Lib.hid hQ
  clear hx hT h hTab hQ
  simp only [List.length_cons, List.length_nil, Nat.zero_add, Nat.reduceAdd]
  go_enter Tryz.func64, Tryz.ntmps64
  go_wp2_with (first
    | (go_at_call 114; first
        | ((with_reducible refine (HOa.out _).mono ?_); rintro e w1 ⟨rfl, h1⟩; have H1 := Lib.hid h1; obtain ⟨c0, c1, c2⟩ := HX.out w1 h1; clear h1; simp only [])
        | ((with_reducible refine (HOb.out _).mono ?_); rintro e w2 ⟨rfl, h2⟩; have H2 := Lib.hid (H1.out.trans (h2.mono H1.out.size)); obtain ⟨c0, c1, c2⟩ := HX.out w2 H2.out; clear h2; simp only []))
    | (go_at_call 115; refine (HOp.out _).mono ?_; rintro e w3 ⟨rfl, h3⟩; have H3 := Lib.hid (H2.out.trans (h3.mono H2.out.size)); obtain ⟨c0, c1, c2⟩ := HX.out w3 H3.out; clear h3; simp only [])
    | (go_at_call 116; refine (HIs.out _).mono ?_; rintro e w4 ⟨rfl, h4⟩; obtain rfl := h4.symm; simp only [])
    | (go_at_call 117; refine (HTX.out _ H3.out).mono ?_; rintro e w5 ⟨rfl, h5⟩; have H5 := Lib.hid (H3.out.trans (h5.mono H3.out.size)); clear h5; simp only [])
    | (go_at_call 97; refine (HS.out _ H5.out).mono ?_; rintro e w6 ⟨rfl, hq⟩; have HQ2 := Lib.hid hq; clear hq; simp only []))
  go_end0
  exact HQ2.out

set_option maxHeartbeats 8000000 in
theorem calc_no (B t : Nat) (f : Value) (cwd : ByteArray) (inn : Value) (v : Value) (a op b : ByteArray) (w : World) (h : Tool w B t f cwd nCalc inn 0 (.slice none 0 0) [] (.slice none 0 0) []) (hT : Txt w v [a, op, b]) (ha : a.size ≤ 1000) (ho : op.size ≤ 1000) (hb : b.size ≤ 1000) (hTab : Fl.Tabs w) (hB : B ≤ w.heap.size)
    (xa xb z : Nat) (ka kb kz kq q : Bool)
    (HOa : Hid (∀ w, Calls Tryz.prog 114 #[.string a] w fun e w' => e = .returned (.tuple #[.int .u64 xa, .bool ka]) ∧ Below w.heap.size w w'))
    (HOb : Hid (∀ w, Calls Tryz.prog 114 #[.string b] w fun e w' => e = .returned (.tuple #[.int .u64 xb, .bool kb]) ∧ Below w.heap.size w w'))
    (HOp : Hid (∀ w, Calls Tryz.prog 115 #[.string op, .int .u64 xa, .int .u64 xb] w fun e w' => e = .returned (.tuple #[.int .u64 z, .bool kz]) ∧ Below w.heap.size w w'))
    (HIs : Hid (∀ w, Calls Tryz.prog 116 #[.string op, .int .u64 xa, .int .u64 xb] w fun e w' => e = .returned (.tuple #[.bool q, .bool kq]) ∧ w' = w))
    (ka1 : ka = true) (kb1 : kb = true) (kz1 : kz = false) (kq1 : kq = false) :
    Calls Tryz.prog 64 #[.pointer (some ⟨t, 0, none⟩), v] w (UtilP B t f cwd nCalc inn 2 [] (logB nCalc op 2).data.toList w) := by
  obtain ⟨Q', hQ⟩ : ∃ Q', UtilP B t f cwd nCalc inn 2 [] (logB nCalc op 2).data.toList w = Q' := ⟨_, rfl⟩
  rw [hQ]
  obtain ⟨va, vc, rfl, hx⟩ := hT.form
  obtain ⟨g, off, rfl, _, _⟩ := hx 0 (by simp)
  have HX : Hid (∀ w', Below w.heap.size w w' → w'.cell? ⟨g, off, none⟩ = some (.string a) ∧ w'.cell? ⟨g, off + 1, none⟩ = some (.string op) ∧ w'.cell? ⟨g, off + 2, none⟩ = some (.string b)) := fun w' hw => by
    obtain ⟨b0, o0, e0, _, c0⟩ := (hT.below hw).form.choose_spec.choose_spec.2 0 (by simp)
    have hf := (hT.below hw).form
    obtain ⟨va2, vc2, e, hx2⟩ := hf
    injection e with e1 _ _
    subst e1
    obtain ⟨g0, f0, e0, _, c0⟩ := hx2 0 (by simp)
    obtain ⟨g1, f1, e1, _, c1⟩ := hx2 1 (by simp)
    obtain ⟨g2, f2, e2, _, c2⟩ := hx2 2 (by simp)
    injection e0 with e0; injection e0 with a0 b0 _; subst a0; subst b0
    injection e1 with e1; injection e1 with a1 b1 _; subst a1; subst b1
    injection e2 with e2; injection e2 with a2 b2 _; subst a2; subst b2
    exact ⟨by simpa using c0, by simpa using c1, by simpa using c2⟩
  obtain ⟨c0, c1, c2⟩ := HX.out w (Below.refl _ _)
  have HT := Lib.hid h
  have HTB := Lib.hid hTab
  subst ka1
  subst kb1
  subst kz1
  subst kq1
  have HCP : Hid (∀ w', Below w.heap.size w w' → Calls Tryz.prog 113 #[.pointer (some ⟨t, 0, none⟩), .int .i64 2, .string op, .int .i64 2] w' fun e w'' => e = .returned (.tuple #[]) ∧ Q' (.returned (.tuple #[])) w'') := fun w' hw => by
    refine (complain_any B t f cwd nCalc inn 2 0 (.slice none 0 0) [] op 2 w' (h.below hw) (by decide) (by assumption) (by decide) (by decide)).mono ?_
    rintro e w'' ⟨rfl, l', h2, h3⟩
    refine ⟨rfl, ?_⟩
    rw [← hQ]
    exact ⟨rfl, _, l', h2, only_ext hw h3⟩
  have HQ := Lib.hid hQ
  clear hx hT h hTab hQ
  simp only [List.length_cons, List.length_nil, Nat.zero_add, Nat.reduceAdd]
  go_enter Tryz.func64, Tryz.ntmps64
  go_wp2_with (first
    | (go_at_call 114; first
        | ((with_reducible refine (HOa.out _).mono ?_); rintro e w1 ⟨rfl, h1⟩; have H1 := Lib.hid h1; obtain ⟨c0, c1, c2⟩ := HX.out w1 h1; clear h1; simp only [])
        | ((with_reducible refine (HOb.out _).mono ?_); rintro e w2 ⟨rfl, h2⟩; have H2 := Lib.hid (H1.out.trans (h2.mono H1.out.size)); obtain ⟨c0, c1, c2⟩ := HX.out w2 H2.out; clear h2; simp only []))
    | (go_at_call 115; refine (HOp.out _).mono ?_; rintro e w3 ⟨rfl, h3⟩; have H3 := Lib.hid (H2.out.trans (h3.mono H2.out.size)); obtain ⟨c0, c1, c2⟩ := HX.out w3 H3.out; clear h3; simp only [])
    | (go_at_call 116; refine (HIs.out _).mono ?_; rintro e w4 ⟨rfl, h4⟩; obtain rfl := h4.symm; simp only [])
    | (go_at_call 113; refine (HCP.out _ H3.out).mono ?_; rintro e w5 ⟨rfl, hq⟩; have HQ2 := Lib.hid hq; clear hq; simp only []))
  go_end0
  exact HQ2.out

set_option maxHeartbeats 8000000 in
theorem calc_yes (B t : Nat) (f : Value) (cwd : ByteArray) (inn : Value) (v : Value) (a op b : ByteArray) (w : World) (h : Tool w B t f cwd nCalc inn 0 (.slice none 0 0) [] (.slice none 0 0) []) (hT : Txt w v [a, op, b]) (ha : a.size ≤ 1000) (ho : op.size ≤ 1000) (hb : b.size ≤ 1000) (hTab : Fl.Tabs w) (hB : B ≤ w.heap.size)
    (xa xb z : Nat) (ka kb kz kq q : Bool)
    (HOa : Hid (∀ w, Calls Tryz.prog 114 #[.string a] w fun e w' => e = .returned (.tuple #[.int .u64 xa, .bool ka]) ∧ Below w.heap.size w w'))
    (HOb : Hid (∀ w, Calls Tryz.prog 114 #[.string b] w fun e w' => e = .returned (.tuple #[.int .u64 xb, .bool kb]) ∧ Below w.heap.size w w'))
    (HOp : Hid (∀ w, Calls Tryz.prog 115 #[.string op, .int .u64 xa, .int .u64 xb] w fun e w' => e = .returned (.tuple #[.int .u64 z, .bool kz]) ∧ Below w.heap.size w w'))
    (HIs : Hid (∀ w, Calls Tryz.prog 116 #[.string op, .int .u64 xa, .int .u64 xb] w fun e w' => e = .returned (.tuple #[.bool q, .bool kq]) ∧ w' = w))
    (ka1 : ka = true) (kb1 : kb = true) (kz1 : kz = false) (kq1 : kq = true) (q1 : q = true) :
    Calls Tryz.prog 64 #[.pointer (some ⟨t, 0, none⟩), v] w (UtilP B t f cwd nCalc inn 0 [] [] w) := by
  obtain ⟨Q', hQ⟩ : ∃ Q', UtilP B t f cwd nCalc inn 0 [] [] w = Q' := ⟨_, rfl⟩
  rw [hQ]
  obtain ⟨va, vc, rfl, hx⟩ := hT.form
  obtain ⟨g, off, rfl, _, _⟩ := hx 0 (by simp)
  have HX : Hid (∀ w', Below w.heap.size w w' → w'.cell? ⟨g, off, none⟩ = some (.string a) ∧ w'.cell? ⟨g, off + 1, none⟩ = some (.string op) ∧ w'.cell? ⟨g, off + 2, none⟩ = some (.string b)) := fun w' hw => by
    obtain ⟨b0, o0, e0, _, c0⟩ := (hT.below hw).form.choose_spec.choose_spec.2 0 (by simp)
    have hf := (hT.below hw).form
    obtain ⟨va2, vc2, e, hx2⟩ := hf
    injection e with e1 _ _
    subst e1
    obtain ⟨g0, f0, e0, _, c0⟩ := hx2 0 (by simp)
    obtain ⟨g1, f1, e1, _, c1⟩ := hx2 1 (by simp)
    obtain ⟨g2, f2, e2, _, c2⟩ := hx2 2 (by simp)
    injection e0 with e0; injection e0 with a0 b0 _; subst a0; subst b0
    injection e1 with e1; injection e1 with a1 b1 _; subst a1; subst b1
    injection e2 with e2; injection e2 with a2 b2 _; subst a2; subst b2
    exact ⟨by simpa using c0, by simpa using c1, by simpa using c2⟩
  obtain ⟨c0, c1, c2⟩ := HX.out w (Below.refl _ _)
  have HT := Lib.hid h
  have HTB := Lib.hid hTab
  subst ka1
  subst kb1
  subst kz1
  subst kq1
  subst q1
  have HQ := Lib.hid hQ
  clear hx hT h hTab hQ
  simp only [List.length_cons, List.length_nil, Nat.zero_add, Nat.reduceAdd]
  go_enter Tryz.func64, Tryz.ntmps64
  go_wp2_with (first
    | (go_at_call 114; first
        | ((with_reducible refine (HOa.out _).mono ?_); rintro e w1 ⟨rfl, h1⟩; have H1 := Lib.hid h1; obtain ⟨c0, c1, c2⟩ := HX.out w1 h1; clear h1; simp only [])
        | ((with_reducible refine (HOb.out _).mono ?_); rintro e w2 ⟨rfl, h2⟩; have H2 := Lib.hid (H1.out.trans (h2.mono H1.out.size)); obtain ⟨c0, c1, c2⟩ := HX.out w2 H2.out; clear h2; simp only []))
    | (go_at_call 115; refine (HOp.out _).mono ?_; rintro e w3 ⟨rfl, h3⟩; have H3 := Lib.hid (H2.out.trans (h3.mono H2.out.size)); obtain ⟨c0, c1, c2⟩ := HX.out w3 H3.out; clear h3; simp only [])
    | (go_at_call 116; refine (HIs.out _).mono ?_; rintro e w4 ⟨rfl, h4⟩; obtain rfl := h4.symm; simp only [])
    | (fail))
  go_end0
  rw [← HQ.out]
  exact ⟨rfl, _, _, HT.out.below H3.out, Only.of_below H3.out⟩

set_option maxHeartbeats 8000000 in
theorem calc_not (B t : Nat) (f : Value) (cwd : ByteArray) (inn : Value) (v : Value) (a op b : ByteArray) (w : World) (h : Tool w B t f cwd nCalc inn 0 (.slice none 0 0) [] (.slice none 0 0) []) (hT : Txt w v [a, op, b]) (ha : a.size ≤ 1000) (ho : op.size ≤ 1000) (hb : b.size ≤ 1000) (hTab : Fl.Tabs w) (hB : B ≤ w.heap.size)
    (xa xb z : Nat) (ka kb kz kq q : Bool)
    (HOa : Hid (∀ w, Calls Tryz.prog 114 #[.string a] w fun e w' => e = .returned (.tuple #[.int .u64 xa, .bool ka]) ∧ Below w.heap.size w w'))
    (HOb : Hid (∀ w, Calls Tryz.prog 114 #[.string b] w fun e w' => e = .returned (.tuple #[.int .u64 xb, .bool kb]) ∧ Below w.heap.size w w'))
    (HOp : Hid (∀ w, Calls Tryz.prog 115 #[.string op, .int .u64 xa, .int .u64 xb] w fun e w' => e = .returned (.tuple #[.int .u64 z, .bool kz]) ∧ Below w.heap.size w w'))
    (HIs : Hid (∀ w, Calls Tryz.prog 116 #[.string op, .int .u64 xa, .int .u64 xb] w fun e w' => e = .returned (.tuple #[.bool q, .bool kq]) ∧ w' = w))
    (ka1 : ka = true) (kb1 : kb = true) (kz1 : kz = false) (kq1 : kq = true) (q1 : q = false) :
    Calls Tryz.prog 64 #[.pointer (some ⟨t, 0, none⟩), v] w (UtilP B t f cwd nCalc inn 1 [] [] w) := by
  obtain ⟨Q', hQ⟩ : ∃ Q', UtilP B t f cwd nCalc inn 1 [] [] w = Q' := ⟨_, rfl⟩
  rw [hQ]
  obtain ⟨va, vc, rfl, hx⟩ := hT.form
  obtain ⟨g, off, rfl, _, _⟩ := hx 0 (by simp)
  have HX : Hid (∀ w', Below w.heap.size w w' → w'.cell? ⟨g, off, none⟩ = some (.string a) ∧ w'.cell? ⟨g, off + 1, none⟩ = some (.string op) ∧ w'.cell? ⟨g, off + 2, none⟩ = some (.string b)) := fun w' hw => by
    obtain ⟨b0, o0, e0, _, c0⟩ := (hT.below hw).form.choose_spec.choose_spec.2 0 (by simp)
    have hf := (hT.below hw).form
    obtain ⟨va2, vc2, e, hx2⟩ := hf
    injection e with e1 _ _
    subst e1
    obtain ⟨g0, f0, e0, _, c0⟩ := hx2 0 (by simp)
    obtain ⟨g1, f1, e1, _, c1⟩ := hx2 1 (by simp)
    obtain ⟨g2, f2, e2, _, c2⟩ := hx2 2 (by simp)
    injection e0 with e0; injection e0 with a0 b0 _; subst a0; subst b0
    injection e1 with e1; injection e1 with a1 b1 _; subst a1; subst b1
    injection e2 with e2; injection e2 with a2 b2 _; subst a2; subst b2
    exact ⟨by simpa using c0, by simpa using c1, by simpa using c2⟩
  obtain ⟨c0, c1, c2⟩ := HX.out w (Below.refl _ _)
  have HT := Lib.hid h
  have HTB := Lib.hid hTab
  subst ka1
  subst kb1
  subst kz1
  subst kq1
  subst q1
  have HP : Hid (∀ w', Below w.heap.size w w' → w'.cell? ⟨t, 4, none⟩ = some (.int .i64 0) ∧ w'.frozen? ⟨t, 4, none⟩ = false) := fun w' hw => ⟨cell_of (h.below hw).blk 4, free_of (h.below hw).blk 4⟩
  have HQ := Lib.hid hQ
  clear hx hT h hTab hQ
  simp only [List.length_cons, List.length_nil, Nat.zero_add, Nat.reduceAdd]
  go_enter Tryz.func64, Tryz.ntmps64
  go_wp2_with (first
    | (go_at_call 114; first
        | ((with_reducible refine (HOa.out _).mono ?_); rintro e w1 ⟨rfl, h1⟩; have H1 := Lib.hid h1; obtain ⟨c0, c1, c2⟩ := HX.out w1 h1; clear h1; simp only [])
        | ((with_reducible refine (HOb.out _).mono ?_); rintro e w2 ⟨rfl, h2⟩; have H2 := Lib.hid (H1.out.trans (h2.mono H1.out.size)); obtain ⟨c0, c1, c2⟩ := HX.out w2 H2.out; clear h2; simp only []))
    | (go_at_call 115; refine (HOp.out _).mono ?_; rintro e w3 ⟨rfl, h3⟩; have H3 := Lib.hid (H2.out.trans (h3.mono H2.out.size)); obtain ⟨c0, c1, c2⟩ := HX.out w3 H3.out; obtain ⟨p4, e4⟩ := HP.out w3 H3.out; clear h3; simp only [])
    | (go_at_call 116; refine (HIs.out _).mono ?_; rintro e w4 ⟨rfl, h4⟩; obtain rfl := h4.symm; simp only [])
    | (fail))
  go_end0
  rw [← HQ.out]
  exact ⟨rfl, _, _, (HT.out.below H3.out).stat 1, only_ext H3.out ((Only.refl (fun k => k = t) _).set (.inl rfl) 4 _)⟩

end Go.Proofs.YtcmjpkfinbakkaaGreatDoor

namespace Go.Proofs.YtcmjpkfinbakkaaGreatDoor
open Go.RowKit Go.ChangeShapes Go.WideShapes
set_option linter.unusedVariables false
set_option maxRecDepth 100000

theorem calc_any (B t : Nat) (f : Value) (cwd : ByteArray) (inn : Value) (v : Value) (a op b : ByteArray) (w : World) (h : Tool w B t f cwd nCalc inn 0 (.slice none 0 0) [] (.slice none 0 0) []) (hT : Txt w v [a, op, b]) (ha : a.size ≤ 1000) (ho : op.size ≤ 1000) (hb : b.size ≤ 1000) (hTab : Fl.Tabs w) (hB : B ≤ w.heap.size) :
    Calls Tryz.prog 64 #[.pointer (some ⟨t, 0, none⟩), v] w (UtilP B t f cwd nCalc inn (calcS a op b).1 (calcS a op b).2.1 (calcS a op b).2.2 w) := by
  have HOa : Hid (∀ w, Calls Tryz.prog 114 #[.string a] w fun e w' => e = .returned (.tuple #[.int .u64 ((Fl.ofL a.data.toList).1 : Nat), .bool (Fl.ofL a.data.toList).2]) ∧ Below w.heap.size w w') := fun w => Fl.Of_any a w (by omega)
  have HOb : Hid (∀ w, Calls Tryz.prog 114 #[.string b] w fun e w' => e = .returned (.tuple #[.int .u64 ((Fl.ofL b.data.toList).1 : Nat), .bool (Fl.ofL b.data.toList).2]) ∧ Below w.heap.size w w') := fun w => Fl.Of_any b w (by omega)
  have hxa := Fl.ofL_lt a.data.toList
  have hxb := Fl.ofL_lt b.data.toList
  unfold calcS
  generalize (Fl.ofL a.data.toList).1 = xa at HOa hxa ⊢
  generalize (Fl.ofL b.data.toList).1 = xb at HOb hxb ⊢
  generalize hka : (Fl.ofL a.data.toList).2 = ka at HOa ⊢
  generalize hkb : (Fl.ofL b.data.toList).2 = kb at HOb ⊢
  have HOp : Hid (∀ w, Calls Tryz.prog 115 #[.string op, .int .u64 xa, .int .u64 xb] w fun e w' => e = .returned (.tuple #[.int .u64 ((Fl.opV op.data.toList xa xb).getD 0 : Nat), .bool (Fl.opV op.data.toList xa xb).isSome]) ∧ Below w.heap.size w w') := fun w => (Fl.Op_all op xa xb hxa hxb w).mono fun e w' ⟨he, n, hw⟩ => ⟨he, by rw [hw]; exact drew_below w n⟩
  have HIs : Hid (∀ w, Calls Tryz.prog 116 #[.string op, .int .u64 xa, .int .u64 xb] w fun e w' => e = .returned (.tuple #[.bool ((Fl.isV op.data.toList xa xb).getD false), .bool (Fl.isV op.data.toList xa xb).isSome]) ∧ w' = w) := fun w => Fl.Is_all op xa xb w
  have hz := Fl.opV_lt op.data.toList hxa hxb
  generalize (Fl.opV op.data.toList xa xb).getD 0 = z at HOp hz ⊢
  generalize (Fl.opV op.data.toList xa xb).isSome = kz at HOp ⊢
  generalize (Fl.isV op.data.toList xa xb).getD false = q at HIs ⊢
  generalize (Fl.isV op.data.toList xa xb).isSome = kq at HIs ⊢
  cases ka
  · exact calc_a B t f cwd inn v a op b w h hT ha ho hb hTab hB xa xb z false kb kz kq q HOa HOb HOp HIs rfl
  cases kb
  · exact calc_b B t f cwd inn v a op b w h hT ha ho hb hTab hB xa xb z true false kz kq q HOa HOb HOp HIs rfl rfl
  cases kz
  · cases kq
    · exact calc_no B t f cwd inn v a op b w h hT ha ho hb hTab hB xa xb z true true false false q HOa HOb HOp HIs rfl rfl rfl rfl
    · cases q
      · exact calc_not B t f cwd inn v a op b w h hT ha ho hb hTab hB xa xb z true true false true false HOa HOb HOp HIs rfl rfl rfl rfl rfl
      · exact calc_yes B t f cwd inn v a op b w h hT ha ho hb hTab hB xa xb z true true false true true HOa HOb HOp HIs rfl rfl rfl rfl rfl
  · exact calc_op B t f cwd inn v a op b w h hT ha ho hb hTab hB xa xb z true true true kq q HOa HOb HOp HIs rfl rfl rfl hz
def RunU (st : Int) (s m : Bz) (w : World) (e : Ending) (w' : World) : Prop := ∃ o' l', e = .returned (.agg #[.int .i64 st, o', l']) ∧ w'.ownsRow w.heap.size 5 1 o' s.length (u8s s) ∧ w'.ownsRow w.heap.size 5 1 l' m.length (u8s m) ∧ Below w.heap.size w w'
theorem row_43 {w2 w3 : World} {B : Nat} {v : Value} {s : Bz} {k : Nat} {cs : List Value} (h : w2.ownsRow B 5 1 v s.length (u8s s)) (hk : w2.heap[k]? = some (.cells cs.toArray 43 (0, 0))) (hw : ∀ g, g ≠ k → w3.heap[g]? = w2.heap[g]?) : w3.ownsRow B 5 1 v s.length (u8s s) := by
  refine row_only h fun g hg _ => ?_
  have hne : g ≠ k := by
    intro e
    rcases h.2 with ⟨h1, _⟩ | ⟨g', cap, cur, h1, _, h4, _⟩
    · rw [h1] at hg; cases hg
    · rw [h1] at hg
      have hgg : g' = g := by simpa [Value.ownBlock] using hg
      rw [hgg, e, hk] at h4
      injection h4 with h4
      injection h4 with _ h4 _
      exact absurd h4 (by decide)
  exact hw g hne
set_option maxHeartbeats 8000000 in
theorem run_calc (f : Value) (cwd : ByteArray) (v inn : Value) (st : Int) (bs ms : Bz) (w : World) (hf : ∃ k, f = .pointer k) (hv : ∃ a n c, v = .slice a n c) (hi : ∃ a n c, inn = .slice a n c)
    (HE : ∀ (t : Nat) (w1 : World), Below w.heap.size w w1 → Tool w1 w.heap.size t f cwd nCalc inn 0 (.slice none 0 0) [] (.slice none 0 0) [] → Calls Tryz.prog 64 #[.pointer (some ⟨t, 0, none⟩), v] w1 (UtilP w.heap.size t f cwd nCalc inn st bs ms w1)) :
    Calls Tryz.prog 23 #[f, .string cwd, .string nCalc, v, inn] w (RunU st bs ms w) := by
  obtain ⟨fk, rfl⟩ := hf
  obtain ⟨va, vn, vc, rfl⟩ := hv
  obtain ⟨ia, i_n, ic, rfl⟩ := hi
  obtain ⟨Q', hQ⟩ : ∃ Q', RunU st bs ms w = Q' := ⟨_, rfl⟩
  rw [hQ]
  have HQ := Lib.hid hQ
  obtain ⟨W0, hW0⟩ : ∃ W0, w.alloc (.cells #[.int .i64 0, .slice none 0 0, .slice none 0 0] 43) = W0 := ⟨_, rfl⟩
  obtain ⟨W1, hW1⟩ : ∃ W1, W0.alloc (.cells #[.pointer fk, .string cwd, .string nCalc, .slice ia i_n ic, .int .i64 0, .slice none 0 0, .slice none 0 0] 98) = W1 := ⟨_, rfl⟩
  have hs0 : W0.heap.size = w.heap.size + 1 := by rw [← hW0]; simp
  have hb0 : Below w.heap.size w W0 := by rw [← hW0]; exact (Below.refl _ _).alloc (Nat.le_refl _) _
  have hb1 : Below w.heap.size w W1 := by rw [← hW1]; exact hb0.alloc (by omega) _
  have hk0 : W0.heap[w.heap.size]? = some (.cells [.int .i64 0, .slice none 0 0, .slice none 0 0].toArray 43 (0, 0)) := by rw [← hW0]; exact heap_alloc_new _ _
  have hk1 : W1.heap[w.heap.size]? = some (.cells [.int .i64 0, .slice none 0 0, .slice none 0 0].toArray 43 (0, 0)) := by
    rw [← hW1, (MapKept.heap_alloc _ _).2 _ (by omega)]; exact hk0
  have ht1 : W1.heap[w.heap.size + 1]? = some (.cells (tlC (.pointer fk) cwd nCalc (.slice ia i_n ic) 0 (.slice none 0 0) (.slice none 0 0)).toArray 98 (0, 0)) := by
    rw [← hW1, ← hs0]; exact heap_alloc_new _ _
  have HW1 := Lib.hid hW1
  have HW0 := Lib.hid hW0
  have hsz1 : w.heap.size + 1 < W1.heap.size := blk_lt ht1
  have HC := Lib.hid (HE (w.heap.size + 1) W1 hb1 ⟨ht1, by omega, World.ownsRow_nil _ _ _ _, World.ownsRow_nil _ _ _ _, (fun e => by cases e), (fun e => by cases e), (fun k e => by cases e)⟩)
  have HK1 := Lib.hid hk1
  have HB1 := Lib.hid hb1
  clear hQ HE hW0 hW1 hs0 hb0 hb1 hk0 hk1 ht1
  unfold nCalc at HC HW1 ⊢
  go_enter Tryz.func23, Tryz.ntmps23
  go_wp2_with (go_at_call 64; rw [HW0.out, HW1.out]; refine HC.out.mono ?_; rintro e w2 ⟨rfl, o', l', h2, h3⟩; obtain ⟨oa, oc, rfl, _⟩ := own_slice h2.out; obtain ⟨la, lc, rfl, _⟩ := own_slice h2.log; have hk2 := (h3.block w.heap.size (by omega) (by omega)).trans HK1.out; have c0 : w2.cell? ⟨w.heap.size, 0, none⟩ = some (.int .i64 0) := cell_of hk2 0; have c1 : w2.cell? ⟨w.heap.size, 1, none⟩ = some (.slice none 0 0) := cell_of hk2 1; have c2 : w2.cell? ⟨w.heap.size, 2, none⟩ = some (.slice none 0 0) := cell_of hk2 2; have f0 := free_of hk2 0; have f1 := free_of hk2 1; have f2 := free_of hk2 2; have c4 : w2.cell? ⟨w.heap.size + 1, 4, none⟩ = some (.int .i64 st) := cell_of h2.blk 4; have c5 : w2.cell? ⟨w.heap.size + 1, 5, none⟩ = some (.slice oa bs.length oc) := cell_of h2.blk 5; have c6 : w2.cell? ⟨w.heap.size + 1, 6, none⟩ = some (.slice la ms.length lc) := cell_of h2.blk 6; have H2 := Lib.hid h2; have H3 := Lib.hid h3; have HK2 := Lib.hid hk2; clear h2 h3 hk2; simp only [])
  have hs := set_of (set_of (set_of HK2.out 0 (.int .i64 st)) 1 (.slice oa bs.length oc)) 2 (.slice la ms.length lc)
  have hb3 : Below w.heap.size w (((w2.setCell ⟨w.heap.size, 0, none⟩ (.int .i64 st)).setCell ⟨w.heap.size, 1, none⟩ (.slice oa bs.length oc)).setCell ⟨w.heap.size, 2, none⟩ (.slice la ms.length lc)) := by
    have hb2 : Below w.heap.size w w2 := HB1.out.trans (H3.out.below (fun k e => by omega) (by omega))
    exact ((hb2.setCell (Nat.le_refl _) _).setCell (Nat.le_refl _) _).setCell (Nat.le_refl _) _
  have hw3 : ∀ g, g ≠ w.heap.size → (((w2.setCell ⟨w.heap.size, 0, none⟩ (.int .i64 st)).setCell ⟨w.heap.size, 1, none⟩ (.slice oa bs.length oc)).setCell ⟨w.heap.size, 2, none⟩ (.slice la ms.length lc)).heap[g]? = w2.heap[g]? := fun g hne => by
    rw [Below.heap_setCell _ _ _ _ hne, Below.heap_setCell _ _ _ _ hne, Below.heap_setCell _ _ _ _ hne]
  have hrow := row_43 H2.out.out HK2.out hw3
  have hrow2 := row_43 H2.out.log HK2.out hw3
  generalize (((w2.setCell ⟨w.heap.size, 0, none⟩ (.int .i64 st)).setCell ⟨w.heap.size, 1, none⟩ (.slice oa bs.length oc)).setCell ⟨w.heap.size, 2, none⟩ (.slice la ms.length lc)) = w3 at *
  have d0 : w3.cell? ⟨w.heap.size, 0, none⟩ = some (.int .i64 st) := cell_of hs 0
  have d1 : w3.cell? ⟨w.heap.size, 1, none⟩ = some (.slice oa bs.length oc) := cell_of hs 1
  have d2 : w3.cell? ⟨w.heap.size, 2, none⟩ = some (.slice la ms.length lc) := cell_of hs 2
  refine bodyPost_ret (v := .agg #[.int .i64 st, .slice oa bs.length oc, .slice la ms.length lc]) ?_ rfl ?_
  · simp [results, Tryz.results23, go_sem, d0, d1, d2]
  · rw [← HQ.out]
    exact ⟨_, _, rfl, hrow, hrow2, hb3⟩
end Go.Proofs.YtcmjpkfinbakkaaGreatDoor
