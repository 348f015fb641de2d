import Derived.Test.YtcmjpkfinbakkaaGreatDoorK
namespace Go.Proofs.YtcmjpkfinbakkaaGreatDoor
open Go.RowKit Go.ChangeShapes Go.WideShapes
set_option linter.unusedVariables false
set_option maxRecDepth 100000

theorem txt3 (w : World) (x y z : ByteArray) : Txt (w.alloc (.cells #[.string x, .string y, .string z] 9)) (.slice (some ⟨w.heap.size, 0, none⟩) 3 3) [x, y, z] :=
  ⟨_, 3, rfl, fun i hi => by
    refine ⟨w.heap.size, 0, rfl, by simp, ?_⟩
    simp only [World.cell?, heap_alloc_new w]
    match i, hi with
    | 0, _ => rfl
    | 1, _ => rfl
    | 2, _ => rfl⟩
def logS (x : ByteArray) : ByteArray := ⟨#[99, 97, 108, 99, 58, 32]⟩ ++ x ++ ⟨#[58, 32, 101, 114, 114, 111, 114, 32, 50, 10]⟩
theorem logS_data (x : ByteArray) : (logS x).data.toList = (logB nCalc x 2).data.toList := by
  have h2 : Lib.decDigits 2 = [50] := by simp [Lib.decDigits]
  unfold logS logB nCalc
  simp [h2]
def TellP (st : Int) (S M : ByteArray) (g : Nat) (oa la : Option Addr) (oc lc : Nat) (w : World) : Prop :=
  w.cell? ⟨g, 0, none⟩ = some (.int .i64 st) ∧ w.cell? ⟨g, 1, none⟩ = some (.slice oa S.size oc) ∧ w.cell? ⟨g, 2, none⟩ = some (.slice la M.size lc) ∧
  (convert 41 9 (.slice oa S.size oc)).run Tryz.prog w = .ok (.string S) w ∧ (convert 41 9 (.slice la M.size lc)).run Tryz.prog w = .ok (.string M) w
theorem tell_of {st : Int} {s m : Bz} {w w' : World} {B : Nat} {oa la : Option Addr} {oc lc : Nat} {S M : ByteArray} (hS : S.data.toList = s) (hM : M.data.toList = m) (h2 : w.ownsRow B 5 1 (.slice oa s.length oc) s.length (u8s s)) (h3 : w.ownsRow B 5 1 (.slice la m.length lc) m.length (u8s m))
    (hb : Below (w.alloc (.cells #[.int .i64 st, .slice oa S.size oc, .slice la M.size lc] 43)).heap.size (w.alloc (.cells #[.int .i64 st, .slice oa S.size oc, .slice la M.size lc] 43)) w') : TellP st S M w.heap.size oa la oc lc w' := by
  have e1 : S.size = s.length := by rw [← hS, dl]
  have e2 : M.size = m.length := by rw [← hM, dl]
  have hk : w'.heap[w.heap.size]? = some (.cells [.int .i64 st, .slice oa S.size oc, .slice la M.size lc].toArray 43 (0, 0)) := (hb.block _ (by simp)).trans (heap_alloc_new _ _)
  have hal : Below w.heap.size w w' := ((Below.refl _ w).alloc (Nat.le_refl _) _).trans (hb.mono (by simp))
  refine ⟨cell_of hk 0, cell_of hk 1, cell_of hk 2, ?_, ?_⟩
  · rw [e1]; exact conv_agg (own_below h2 hal) hS
  · rw [e2]; exact conv_agg (own_below h3 hal) hM
set_option maxHeartbeats 8000000 in
theorem calc_big (a op b : ByteArray) (W : World) (h : 40 < a.size ∨ 10 < op.size ∨ 40 < b.size) :
    Calls Tryz.prog 9 #[.string a, .string op, .string b] W fun e w' => e = .returned (.bool true) ∧ Below W.heap.size W w' := by
  have HA := Lib.hid (alive_any W)
  by_cases h1 : 40 < a.size
  · have d1 : decide ((40 : Int) < (a.size : Int)) = true := decide_eq_true (by omega)
    go_enter Tryz.func9, Tryz.ntmps9
    go_wp2_with (go_at_call 22; refine HA.out.mono ?_; rintro e w5 ⟨rfl, h5⟩; have HB := Lib.hid h5; clear h5; simp only [])
    go_ret
    exact ⟨rfl, HB.out⟩
  have d1 : decide ((40 : Int) < (a.size : Int)) = false := decide_eq_false (by omega)
  by_cases h2 : 10 < op.size
  · have d2 : decide ((10 : Int) < (op.size : Int)) = true := decide_eq_true (by omega)
    go_enter Tryz.func9, Tryz.ntmps9
    go_wp2_with (go_at_call 22; refine HA.out.mono ?_; rintro e w5 ⟨rfl, h5⟩; have HB := Lib.hid h5; clear h5; simp only [])
    go_ret
    exact ⟨rfl, HB.out⟩
  have d2 : decide ((10 : Int) < (op.size : Int)) = false := decide_eq_false (by omega)
  have d3 : decide ((40 : Int) < (b.size : Int)) = true := decide_eq_true (by omega)
  go_enter Tryz.func9, Tryz.ntmps9
  go_wp2_with (go_at_call 22; refine HA.out.mono ?_; rintro e w5 ⟨rfl, h5⟩; have HB := Lib.hid h5; clear h5; simp only [])
  go_ret
  exact ⟨rfl, HB.out⟩
set_option maxHeartbeats 8000000 in
theorem law_a (a op b : ByteArray) (W : World) (h1 : ¬ 40 < a.size) (h2 : ¬ 10 < op.size) (h3 : ¬ 40 < b.size)
    (xa xb z : Nat) (ka kb kz kq q : Bool)
    (HRa : Hid (∀ w, Calls Tryz.prog 27 #[.string a] w fun e w' => e = .returned (.tuple #[.int .u64 xa, .bool ka]) ∧ Below w.heap.size w w'))
    (HRb : Hid (∀ w, Calls Tryz.prog 27 #[.string b] w fun e w' => e = .returned (.tuple #[.int .u64 xb, .bool kb]) ∧ Below w.heap.size w w'))
    (HOp : Hid (∀ w, Calls Tryz.prog 28 #[.string op, .int .u64 xa, .int .u64 xb] w fun e w' => e = .returned (.tuple #[.int .u64 z, .bool kz]) ∧ Below w.heap.size w w'))
    (HIs : Hid (∀ w, Calls Tryz.prog 29 #[.string op, .int .u64 xa, .int .u64 xb] w fun e w' => e = .returned (.tuple #[.bool q, .bool kq]) ∧ w' = w))
    (st : Int) (S M : ByteArray) (HRUN : Hid (∀ (k : Option Addr) (w1 : World), Below W.heap.size W w1 → Calls Tryz.prog 23 #[.pointer k, .string ⟨#[47]⟩, .string ⟨#[99, 97, 108, 99]⟩, .slice (some ⟨w1.heap.size, 0, none⟩) 3 3, .slice none 0 0] (w1.alloc (.cells #[.string a, .string op, .string b] 9)) (RunU st S.data.toList M.data.toList (w1.alloc (.cells #[.string a, .string op, .string b] 9)))))
    (ka1 : ka = false) (hst : st = 2) (hS : S = ⟨#[]⟩) (hM : M = logS a) :
    Calls Tryz.prog 9 #[.string a, .string op, .string b] W fun e w' => e = .returned (.bool true) ∧ Below W.heap.size W w' := by
  have HA := Lib.hid (alive_any W)
  have HNEW := Lib.hid (fun w => new_some 1 1 w)
  have d1 : decide ((40 : Int) < (a.size : Int)) = false := decide_eq_false (by omega)
  have d2 : decide ((10 : Int) < (op.size : Int)) = false := decide_eq_false (by omega)
  have d3 : decide ((40 : Int) < (b.size : Int)) = false := decide_eq_false (by omega)
  subst ka1
  subst hst
  subst hS
  subst hM
  have z1 : ¬ (9223372036854775807 < 6 + a.size) := by omega
  have z2 : ¬ (9223372036854775807 < 6 + a.size + 10) := by omega
  unfold logS at HRUN
  generalize hMM : ((⟨#[99, 97, 108, 99, 58, 32]⟩ : ByteArray) ++ a ++ ⟨#[58, 32, 101, 114, 114, 111, 114, 32, 50, 10]⟩) = MM at HRUN
  go_enter Tryz.func9, Tryz.ntmps9
  go_wp2_with (first
    | (go_at_call 22; refine HA.out.mono ?_; rintro e w5 ⟨rfl, h5⟩; have HB := Lib.hid h5; clear h5; simp only [])
    | (go_at_call 14; refine (HNEW.out _).mono ?_; rintro e w6 ⟨⟨kn, rfl⟩, h6⟩; have HB6 := Lib.hid (HB.out.trans (h6.mono HB.out.size)); clear h6; simp only [])
    | (go_at_call 23; refine (HRUN.out _ _ HB6.out).mono ?_; rintro e w7 ⟨o', l', rfl, r1, r2, h7⟩; obtain ⟨oa, oc, rfl, _⟩ := own_slice r1; obtain ⟨la, lc, rfl, _⟩ := own_slice r2; have HTL := Lib.hid (fun w' hb => tell_of (st := 2) (w' := w') rfl rfl r1 r2 hb); have HB7 := Lib.hid ((HB6.out.alloc HB6.out.size (.cells #[.string a, .string op, .string b] 9)).trans (h7.mono (by have := HB6.out.size; simp; omega))); clear h7 r1 r2; simp only [dl])
    | (go_at_call 27; first
        | ((with_reducible refine (HRa.out _).mono ?_); rintro e w8 ⟨rfl, h8⟩; have H8 := Lib.hid h8; clear h8; simp only [])
        | ((with_reducible refine (HRb.out _).mono ?_); rintro e w9 ⟨rfl, h9⟩; have H9 := Lib.hid (H8.out.trans (h9.mono H8.out.size)); clear h9; simp only []))
    | (go_at_call 28; refine (HOp.out _).mono ?_; rintro e w10 ⟨rfl, h10⟩; have H10 := Lib.hid (H9.out.trans (h10.mono H9.out.size)); obtain ⟨c0, c1, c2, cv1, cv2⟩ := HTL.out w10 H10.out; clear h10; simp only [])
    | (go_at_call 29; refine (HIs.out _).mono ?_; rintro e w11 ⟨rfl, h11⟩; obtain rfl := h11.symm; simp only []))
  go_ret
  exact ⟨by first | rfl | simp, (HB7.out.alloc HB7.out.size _).trans (H10.out.mono (by have := HB7.out.size; simp; omega))⟩

set_option maxHeartbeats 8000000 in
theorem law_b (a op b : ByteArray) (W : World) (h1 : ¬ 40 < a.size) (h2 : ¬ 10 < op.size) (h3 : ¬ 40 < b.size)
    (xa xb z : Nat) (ka kb kz kq q : Bool)
    (HRa : Hid (∀ w, Calls Tryz.prog 27 #[.string a] w fun e w' => e = .returned (.tuple #[.int .u64 xa, .bool ka]) ∧ Below w.heap.size w w'))
    (HRb : Hid (∀ w, Calls Tryz.prog 27 #[.string b] w fun e w' => e = .returned (.tuple #[.int .u64 xb, .bool kb]) ∧ Below w.heap.size w w'))
    (HOp : Hid (∀ w, Calls Tryz.prog 28 #[.string op, .int .u64 xa, .int .u64 xb] w fun e w' => e = .returned (.tuple #[.int .u64 z, .bool kz]) ∧ Below w.heap.size w w'))
    (HIs : Hid (∀ w, Calls Tryz.prog 29 #[.string op, .int .u64 xa, .int .u64 xb] w fun e w' => e = .returned (.tuple #[.bool q, .bool kq]) ∧ w' = w))
    (st : Int) (S M : ByteArray) (HRUN : Hid (∀ (k : Option Addr) (w1 : World), Below W.heap.size W w1 → Calls Tryz.prog 23 #[.pointer k, .string ⟨#[47]⟩, .string ⟨#[99, 97, 108, 99]⟩, .slice (some ⟨w1.heap.size, 0, none⟩) 3 3, .slice none 0 0] (w1.alloc (.cells #[.string a, .string op, .string b] 9)) (RunU st S.data.toList M.data.toList (w1.alloc (.cells #[.string a, .string op, .string b] 9)))))
    (ka1 : ka = true) (kb1 : kb = false) (hst : st = 2) (hS : S = ⟨#[]⟩) (hM : M = logS b) :
    Calls Tryz.prog 9 #[.string a, .string op, .string b] W fun e w' => e = .returned (.bool true) ∧ Below W.heap.size W w' := by
  have HA := Lib.hid (alive_any W)
  have HNEW := Lib.hid (fun w => new_some 1 1 w)
  have d1 : decide ((40 : Int) < (a.size : Int)) = false := decide_eq_false (by omega)
  have d2 : decide ((10 : Int) < (op.size : Int)) = false := decide_eq_false (by omega)
  have d3 : decide ((40 : Int) < (b.size : Int)) = false := decide_eq_false (by omega)
  subst ka1
  subst kb1
  subst hst
  subst hS
  subst hM
  have z1 : ¬ (9223372036854775807 < 6 + b.size) := by omega
  have z2 : ¬ (9223372036854775807 < 6 + b.size + 10) := by omega
  unfold logS at HRUN
  generalize hMM : ((⟨#[99, 97, 108, 99, 58, 32]⟩ : ByteArray) ++ b ++ ⟨#[58, 32, 101, 114, 114, 111, 114, 32, 50, 10]⟩) = MM at HRUN
  go_enter Tryz.func9, Tryz.ntmps9
  go_wp2_with (first
    | (go_at_call 22; refine HA.out.mono ?_; rintro e w5 ⟨rfl, h5⟩; have HB := Lib.hid h5; clear h5; simp only [])
    | (go_at_call 14; refine (HNEW.out _).mono ?_; rintro e w6 ⟨⟨kn, rfl⟩, h6⟩; have HB6 := Lib.hid (HB.out.trans (h6.mono HB.out.size)); clear h6; simp only [])
    | (go_at_call 23; refine (HRUN.out _ _ HB6.out).mono ?_; rintro e w7 ⟨o', l', rfl, r1, r2, h7⟩; obtain ⟨oa, oc, rfl, _⟩ := own_slice r1; obtain ⟨la, lc, rfl, _⟩ := own_slice r2; have HTL := Lib.hid (fun w' hb => tell_of (st := 2) (w' := w') rfl rfl r1 r2 hb); have HB7 := Lib.hid ((HB6.out.alloc HB6.out.size (.cells #[.string a, .string op, .string b] 9)).trans (h7.mono (by have := HB6.out.size; simp; omega))); clear h7 r1 r2; simp only [dl])
    | (go_at_call 27; first
        | ((with_reducible refine (HRa.out _).mono ?_); rintro e w8 ⟨rfl, h8⟩; have H8 := Lib.hid h8; clear h8; simp only [])
        | ((with_reducible refine (HRb.out _).mono ?_); rintro e w9 ⟨rfl, h9⟩; have H9 := Lib.hid (H8.out.trans (h9.mono H8.out.size)); clear h9; simp only []))
    | (go_at_call 28; refine (HOp.out _).mono ?_; rintro e w10 ⟨rfl, h10⟩; have H10 := Lib.hid (H9.out.trans (h10.mono H9.out.size)); obtain ⟨c0, c1, c2, cv1, cv2⟩ := HTL.out w10 H10.out; clear h10; simp only [])
    | (go_at_call 29; refine (HIs.out _).mono ?_; rintro e w11 ⟨rfl, h11⟩; obtain rfl := h11.symm; simp only []))
  go_ret
  exact ⟨by first | rfl | simp, (HB7.out.alloc HB7.out.size _).trans (H10.out.mono (by have := HB7.out.size; simp; omega))⟩

set_option maxHeartbeats 8000000 in
theorem law_no (a op b : ByteArray) (W : World) (h1 : ¬ 40 < a.size) (h2 : ¬ 10 < op.size) (h3 : ¬ 40 < b.size)
    (xa xb z : Nat) (ka kb kz kq q : Bool)
    (HRa : Hid (∀ w, Calls Tryz.prog 27 #[.string a] w fun e w' => e = .returned (.tuple #[.int .u64 xa, .bool ka]) ∧ Below w.heap.size w w'))
    (HRb : Hid (∀ w, Calls Tryz.prog 27 #[.string b] w fun e w' => e = .returned (.tuple #[.int .u64 xb, .bool kb]) ∧ Below w.heap.size w w'))
    (HOp : Hid (∀ w, Calls Tryz.prog 28 #[.string op, .int .u64 xa, .int .u64 xb] w fun e w' => e = .returned (.tuple #[.int .u64 z, .bool kz]) ∧ Below w.heap.size w w'))
    (HIs : Hid (∀ w, Calls Tryz.prog 29 #[.string op, .int .u64 xa, .int .u64 xb] w fun e w' => e = .returned (.tuple #[.bool q, .bool kq]) ∧ w' = w))
    (st : Int) (S M : ByteArray) (HRUN : Hid (∀ (k : Option Addr) (w1 : World), Below W.heap.size W w1 → Calls Tryz.prog 23 #[.pointer k, .string ⟨#[47]⟩, .string ⟨#[99, 97, 108, 99]⟩, .slice (some ⟨w1.heap.size, 0, none⟩) 3 3, .slice none 0 0] (w1.alloc (.cells #[.string a, .string op, .string b] 9)) (RunU st S.data.toList M.data.toList (w1.alloc (.cells #[.string a, .string op, .string b] 9)))))
    (ka1 : ka = true) (kb1 : kb = true) (kz1 : kz = false) (kq1 : kq = false) (hst : st = 2) (hS : S = ⟨#[]⟩) (hM : M = logS op) :
    Calls Tryz.prog 9 #[.string a, .string op, .string b] W fun e w' => e = .returned (.bool true) ∧ Below W.heap.size W w' := by
  have HA := Lib.hid (alive_any W)
  have HNEW := Lib.hid (fun w => new_some 1 1 w)
  have d1 : decide ((40 : Int) < (a.size : Int)) = false := decide_eq_false (by omega)
  have d2 : decide ((10 : Int) < (op.size : Int)) = false := decide_eq_false (by omega)
  have d3 : decide ((40 : Int) < (b.size : Int)) = false := decide_eq_false (by omega)
  subst ka1
  subst kb1
  subst kz1
  subst kq1
  subst hst
  subst hS
  subst hM
  have z1 : ¬ (9223372036854775807 < 6 + op.size) := by omega
  have z2 : ¬ (9223372036854775807 < 6 + op.size + 10) := by omega
  unfold logS at HRUN
  generalize hMM : ((⟨#[99, 97, 108, 99, 58, 32]⟩ : ByteArray) ++ op ++ ⟨#[58, 32, 101, 114, 114, 111, 114, 32, 50, 10]⟩) = MM at HRUN
  go_enter Tryz.func9, Tryz.ntmps9
  go_wp2_with (first
    | (go_at_call 22; refine HA.out.mono ?_; rintro e w5 ⟨rfl, h5⟩; have HB := Lib.hid h5; clear h5; simp only [])
    | (go_at_call 14; refine (HNEW.out _).mono ?_; rintro e w6 ⟨⟨kn, rfl⟩, h6⟩; have HB6 := Lib.hid (HB.out.trans (h6.mono HB.out.size)); clear h6; simp only [])
    | (go_at_call 23; refine (HRUN.out _ _ HB6.out).mono ?_; rintro e w7 ⟨o', l', rfl, r1, r2, h7⟩; obtain ⟨oa, oc, rfl, _⟩ := own_slice r1; obtain ⟨la, lc, rfl, _⟩ := own_slice r2; have HTL := Lib.hid (fun w' hb => tell_of (st := 2) (w' := w') rfl rfl r1 r2 hb); have HB7 := Lib.hid ((HB6.out.alloc HB6.out.size (.cells #[.string a, .string op, .string b] 9)).trans (h7.mono (by have := HB6.out.size; simp; omega))); clear h7 r1 r2; simp only [dl])
    | (go_at_call 27; first
        | ((with_reducible refine (HRa.out _).mono ?_); rintro e w8 ⟨rfl, h8⟩; have H8 := Lib.hid h8; clear h8; simp only [])
        | ((with_reducible refine (HRb.out _).mono ?_); rintro e w9 ⟨rfl, h9⟩; have H9 := Lib.hid (H8.out.trans (h9.mono H8.out.size)); clear h9; simp only []))
    | (go_at_call 28; refine (HOp.out _).mono ?_; rintro e w10 ⟨rfl, h10⟩; have H10 := Lib.hid (H9.out.trans (h10.mono H9.out.size)); obtain ⟨c0, c1, c2, cv1, cv2⟩ := HTL.out w10 H10.out; clear h10; simp only [])
    | (go_at_call 29; refine (HIs.out _).mono ?_; rintro e w11 ⟨rfl, h11⟩; obtain rfl := h11.symm; simp only []))
  go_ret
  exact ⟨by first | rfl | simp, (HB7.out.alloc HB7.out.size _).trans (H10.out.mono (by have := HB7.out.size; simp; omega))⟩

set_option maxHeartbeats 8000000 in
theorem law_yes (a op b : ByteArray) (W : World) (h1 : ¬ 40 < a.size) (h2 : ¬ 10 < op.size) (h3 : ¬ 40 < b.size)
    (xa xb z : Nat) (ka kb kz kq q : Bool)
    (HRa : Hid (∀ w, Calls Tryz.prog 27 #[.string a] w fun e w' => e = .returned (.tuple #[.int .u64 xa, .bool ka]) ∧ Below w.heap.size w w'))
    (HRb : Hid (∀ w, Calls Tryz.prog 27 #[.string b] w fun e w' => e = .returned (.tuple #[.int .u64 xb, .bool kb]) ∧ Below w.heap.size w w'))
    (HOp : Hid (∀ w, Calls Tryz.prog 28 #[.string op, .int .u64 xa, .int .u64 xb] w fun e w' => e = .returned (.tuple #[.int .u64 z, .bool kz]) ∧ Below w.heap.size w w'))
    (HIs : Hid (∀ w, Calls Tryz.prog 29 #[.string op, .int .u64 xa, .int .u64 xb] w fun e w' => e = .returned (.tuple #[.bool q, .bool kq]) ∧ w' = w))
    (st : Int) (S M : ByteArray) (HRUN : Hid (∀ (k : Option Addr) (w1 : World), Below W.heap.size W w1 → Calls Tryz.prog 23 #[.pointer k, .string ⟨#[47]⟩, .string ⟨#[99, 97, 108, 99]⟩, .slice (some ⟨w1.heap.size, 0, none⟩) 3 3, .slice none 0 0] (w1.alloc (.cells #[.string a, .string op, .string b] 9)) (RunU st S.data.toList M.data.toList (w1.alloc (.cells #[.string a, .string op, .string b] 9)))))
    (ka1 : ka = true) (kb1 : kb = true) (kz1 : kz = false) (kq1 : kq = true) (q1 : q = true) (hst : st = 0) (hS : S = ⟨#[]⟩) (hM : M = ⟨#[]⟩) :
    Calls Tryz.prog 9 #[.string a, .string op, .string b] W fun e w' => e = .returned (.bool true) ∧ Below W.heap.size W w' := by
  have HA := Lib.hid (alive_any W)
  have HNEW := Lib.hid (fun w => new_some 1 1 w)
  have d1 : decide ((40 : Int) < (a.size : Int)) = false := decide_eq_false (by omega)
  have d2 : decide ((10 : Int) < (op.size : Int)) = false := decide_eq_false (by omega)
  have d3 : decide ((40 : Int) < (b.size : Int)) = false := decide_eq_false (by omega)
  subst ka1
  subst kb1
  subst kz1
  subst kq1
  subst q1
  subst hst
  subst hS
  subst hM
  go_enter Tryz.func9, Tryz.ntmps9
  go_wp2_with (first
    | (go_at_call 22; refine HA.out.mono ?_; rintro e w5 ⟨rfl, h5⟩; have HB := Lib.hid h5; clear h5; simp only [])
    | (go_at_call 14; refine (HNEW.out _).mono ?_; rintro e w6 ⟨⟨kn, rfl⟩, h6⟩; have HB6 := Lib.hid (HB.out.trans (h6.mono HB.out.size)); clear h6; simp only [])
    | (go_at_call 23; refine (HRUN.out _ _ HB6.out).mono ?_; rintro e w7 ⟨o', l', rfl, r1, r2, h7⟩; obtain ⟨oa, oc, rfl, _⟩ := own_slice r1; obtain ⟨la, lc, rfl, _⟩ := own_slice r2; have HTL := Lib.hid (fun w' hb => tell_of (st := 0) (w' := w') rfl rfl r1 r2 hb); have HB7 := Lib.hid ((HB6.out.alloc HB6.out.size (.cells #[.string a, .string op, .string b] 9)).trans (h7.mono (by have := HB6.out.size; simp; omega))); clear h7 r1 r2; simp only [])
    | (go_at_call 27; first
        | ((with_reducible refine (HRa.out _).mono ?_); rintro e w8 ⟨rfl, h8⟩; have H8 := Lib.hid h8; clear h8; simp only [])
        | ((with_reducible refine (HRb.out _).mono ?_); rintro e w9 ⟨rfl, h9⟩; have H9 := Lib.hid (H8.out.trans (h9.mono H8.out.size)); clear h9; simp only []))
    | (go_at_call 28; refine (HOp.out _).mono ?_; rintro e w10 ⟨rfl, h10⟩; have H10 := Lib.hid (H9.out.trans (h10.mono H9.out.size)); obtain ⟨c0, c1, c2, cv1, cv2⟩ := HTL.out w10 H10.out; clear h10; simp only [])
    | (go_at_call 29; refine (HIs.out _).mono ?_; rintro e w11 ⟨rfl, h11⟩; obtain rfl := h11.symm; simp only []))
  go_ret
  exact ⟨by first | rfl | simp, (HB7.out.alloc HB7.out.size _).trans (H10.out.mono (by have := HB7.out.size; simp; omega))⟩

set_option maxHeartbeats 8000000 in
theorem law_not (a op b : ByteArray) (W : World) (h1 : ¬ 40 < a.size) (h2 : ¬ 10 < op.size) (h3 : ¬ 40 < b.size)
    (xa xb z : Nat) (ka kb kz kq q : Bool)
    (HRa : Hid (∀ w, Calls Tryz.prog 27 #[.string a] w fun e w' => e = .returned (.tuple #[.int .u64 xa, .bool ka]) ∧ Below w.heap.size w w'))
    (HRb : Hid (∀ w, Calls Tryz.prog 27 #[.string b] w fun e w' => e = .returned (.tuple #[.int .u64 xb, .bool kb]) ∧ Below w.heap.size w w'))
    (HOp : Hid (∀ w, Calls Tryz.prog 28 #[.string op, .int .u64 xa, .int .u64 xb] w fun e w' => e = .returned (.tuple #[.int .u64 z, .bool kz]) ∧ Below w.heap.size w w'))
    (HIs : Hid (∀ w, Calls Tryz.prog 29 #[.string op, .int .u64 xa, .int .u64 xb] w fun e w' => e = .returned (.tuple #[.bool q, .bool kq]) ∧ w' = w))
    (st : Int) (S M : ByteArray) (HRUN : Hid (∀ (k : Option Addr) (w1 : World), Below W.heap.size W w1 → Calls Tryz.prog 23 #[.pointer k, .string ⟨#[47]⟩, .string ⟨#[99, 97, 108, 99]⟩, .slice (some ⟨w1.heap.size, 0, none⟩) 3 3, .slice none 0 0] (w1.alloc (.cells #[.string a, .string op, .string b] 9)) (RunU st S.data.toList M.data.toList (w1.alloc (.cells #[.string a, .string op, .string b] 9)))))
    (ka1 : ka = true) (kb1 : kb = true) (kz1 : kz = false) (kq1 : kq = true) (q1 : q = false) (hst : st = 1) (hS : S = ⟨#[]⟩) (hM : M = ⟨#[]⟩) :
    Calls Tryz.prog 9 #[.string a, .string op, .string b] W fun e w' => e = .returned (.bool true) ∧ Below W.heap.size W w' := by
  have HA := Lib.hid (alive_any W)
  have HNEW := Lib.hid (fun w => new_some 1 1 w)
  have d1 : decide ((40 : Int) < (a.size : Int)) = false := decide_eq_false (by omega)
  have d2 : decide ((10 : Int) < (op.size : Int)) = false := decide_eq_false (by omega)
  have d3 : decide ((40 : Int) < (b.size : Int)) = false := decide_eq_false (by omega)
  subst ka1
  subst kb1
  subst kz1
  subst kq1
  subst q1
  subst hst
  subst hS
  subst hM
  go_enter Tryz.func9, Tryz.ntmps9
  go_wp2_with (first
    | (go_at_call 22; refine HA.out.mono ?_; rintro e w5 ⟨rfl, h5⟩; have HB := Lib.hid h5; clear h5; simp only [])
    | (go_at_call 14; refine (HNEW.out _).mono ?_; rintro e w6 ⟨⟨kn, rfl⟩, h6⟩; have HB6 := Lib.hid (HB.out.trans (h6.mono HB.out.size)); clear h6; simp only [])
    | (go_at_call 23; refine (HRUN.out _ _ HB6.out).mono ?_; rintro e w7 ⟨o', l', rfl, r1, r2, h7⟩; obtain ⟨oa, oc, rfl, _⟩ := own_slice r1; obtain ⟨la, lc, rfl, _⟩ := own_slice r2; have HTL := Lib.hid (fun w' hb => tell_of (st := 1) (w' := w') rfl rfl r1 r2 hb); have HB7 := Lib.hid ((HB6.out.alloc HB6.out.size (.cells #[.string a, .string op, .string b] 9)).trans (h7.mono (by have := HB6.out.size; simp; omega))); clear h7 r1 r2; simp only [])
    | (go_at_call 27; first
        | ((with_reducible refine (HRa.out _).mono ?_); rintro e w8 ⟨rfl, h8⟩; have H8 := Lib.hid h8; clear h8; simp only [])
        | ((with_reducible refine (HRb.out _).mono ?_); rintro e w9 ⟨rfl, h9⟩; have H9 := Lib.hid (H8.out.trans (h9.mono H8.out.size)); clear h9; simp only []))
    | (go_at_call 28; refine (HOp.out _).mono ?_; rintro e w10 ⟨rfl, h10⟩; have H10 := Lib.hid (H9.out.trans (h10.mono H9.out.size)); obtain ⟨c0, c1, c2, cv1, cv2⟩ := HTL.out w10 H10.out; clear h10; simp only [])
    | (go_at_call 29; refine (HIs.out _).mono ?_; rintro e w11 ⟨rfl, h11⟩; obtain rfl := h11.symm; simp only []))
  go_ret
  exact ⟨by first | rfl | simp, (HB7.out.alloc HB7.out.size _).trans (H10.out.mono (by have := HB7.out.size; simp; omega))⟩

set_option maxHeartbeats 8000000 in
theorem law_op (a op b : ByteArray) (W : World) (h1 : ¬ 40 < a.size) (h2 : ¬ 10 < op.size) (h3 : ¬ 40 < b.size)
    (xa xb z : Nat) (ka kb kz kq q : Bool)
    (HRa : Hid (∀ w, Calls Tryz.prog 27 #[.string a] w fun e w' => e = .returned (.tuple #[.int .u64 xa, .bool ka]) ∧ Below w.heap.size w w'))
    (HRb : Hid (∀ w, Calls Tryz.prog 27 #[.string b] w fun e w' => e = .returned (.tuple #[.int .u64 xb, .bool kb]) ∧ Below w.heap.size w w'))
    (HOp : Hid (∀ w, Calls Tryz.prog 28 #[.string op, .int .u64 xa, .int .u64 xb] w fun e w' => e = .returned (.tuple #[.int .u64 z, .bool kz]) ∧ Below w.heap.size w w'))
    (HIs : Hid (∀ w, Calls Tryz.prog 29 #[.string op, .int .u64 xa, .int .u64 xb] w fun e w' => e = .returned (.tuple #[.bool q, .bool kq]) ∧ w' = w))
    (st : Int) (S M : ByteArray) (HRUN : Hid (∀ (k : Option Addr) (w1 : World), Below W.heap.size W w1 → Calls Tryz.prog 23 #[.pointer k, .string ⟨#[47]⟩, .string ⟨#[99, 97, 108, 99]⟩, .slice (some ⟨w1.heap.size, 0, none⟩) 3 3, .slice none 0 0] (w1.alloc (.cells #[.string a, .string op, .string b] 9)) (RunU st S.data.toList M.data.toList (w1.alloc (.cells #[.string a, .string op, .string b] 9)))))
    (ka1 : ka = true) (kb1 : kb = true) (kz1 : kz = true) (hst : st = 0) (TX : ByteArray) (hTX : TX.size ≤ 1000) (HRT : Hid (∀ w, Calls Tryz.prog 30 #[.int .u64 z] w fun e w' => e = .returned (.string TX) ∧ w' = w)) (hS : S = TX ++ ⟨#[10]⟩) (hM : M = ⟨#[]⟩) :
    Calls Tryz.prog 9 #[.string a, .string op, .string b] W fun e w' => e = .returned (.bool true) ∧ Below W.heap.size W w' := by
  have HA := Lib.hid (alive_any W)
  have HNEW := Lib.hid (fun w => new_some 1 1 w)
  have d1 : decide ((40 : Int) < (a.size : Int)) = false := decide_eq_false (by omega)
  have d2 : decide ((10 : Int) < (op.size : Int)) = false := decide_eq_false (by omega)
  have d3 : decide ((40 : Int) < (b.size : Int)) = false := decide_eq_false (by omega)
  subst ka1
  subst kb1
  subst kz1
  subst hst
  subst hS
  subst hM
  have z1 : ¬ (9223372036854775807 < TX.size + 1) := by omega
  generalize hMM : (TX ++ (⟨#[10]⟩ : ByteArray)) = MM at HRUN
  go_enter Tryz.func9, Tryz.ntmps9
  go_wp2_with (first
    | (go_at_call 22; refine HA.out.mono ?_; rintro e w5 ⟨rfl, h5⟩; have HB := Lib.hid h5; clear h5; simp only [])
    | (go_at_call 14; refine (HNEW.out _).mono ?_; rintro e w6 ⟨⟨kn, rfl⟩, h6⟩; have HB6 := Lib.hid (HB.out.trans (h6.mono HB.out.size)); clear h6; simp only [])
    | (go_at_call 23; refine (HRUN.out _ _ HB6.out).mono ?_; rintro e w7 ⟨o', l', rfl, r1, r2, h7⟩; obtain ⟨oa, oc, rfl, _⟩ := own_slice r1; obtain ⟨la, lc, rfl, _⟩ := own_slice r2; have HTL := Lib.hid (fun w' hb => tell_of (st := 0) (w' := w') rfl rfl r1 r2 hb); have HB7 := Lib.hid ((HB6.out.alloc HB6.out.size (.cells #[.string a, .string op, .string b] 9)).trans (h7.mono (by have := HB6.out.size; simp; omega))); clear h7 r1 r2; simp only [dl])
    | (go_at_call 27; first
        | ((with_reducible refine (HRa.out _).mono ?_); rintro e w8 ⟨rfl, h8⟩; have H8 := Lib.hid h8; clear h8; simp only [])
        | ((with_reducible refine (HRb.out _).mono ?_); rintro e w9 ⟨rfl, h9⟩; have H9 := Lib.hid (H8.out.trans (h9.mono H8.out.size)); clear h9; simp only []))
    | (go_at_call 28; refine (HOp.out _).mono ?_; rintro e w10 ⟨rfl, h10⟩; have H10 := Lib.hid (H9.out.trans (h10.mono H9.out.size)); obtain ⟨c0, c1, c2, cv1, cv2⟩ := HTL.out w10 H10.out; clear h10; simp only [])
    | (go_at_call 29; refine (HIs.out _).mono ?_; rintro e w11 ⟨rfl, h11⟩; obtain rfl := h11.symm; simp only []))
  have HCV := Lib.hid (fun n => HTL.out (w10.drewN n) (H10.out.trans ((drew_below w10 n).mono H10.out.size)))
  have hcn := fun n => (HCV.out n).2.2.2.1
  go_quiet ((go_at_call 30; exact Calls.quiet_of_same (HRT.out _)))
  go_wp2_with fail
  all_goals
    go_ret
    have hBB : Below W.heap.size W w10 := (HB7.out.alloc HB7.out.size _).trans (H10.out.mono (by have := HB7.out.size; simp; omega))
    exact ⟨by first | rfl | simp, below_drewN hBB _⟩

theorem toolscalc_walk (a op b : ByteArray) (W : World) (hTab : Fl.Tabs W) :
    Calls Tryz.prog 9 #[.string a, .string op, .string b] W fun e w' => e = .returned (.bool true) ∧ Below W.heap.size W w' := by
  by_cases h1 : 40 < a.size
  · exact calc_big a op b W (.inl h1)
  by_cases h2 : 10 < op.size
  · exact calc_big a op b W (.inr (.inl h2))
  by_cases h3 : 40 < b.size
  · exact calc_big a op b W (.inr (.inr h3))
  have key : ∀ (st : Int) (S M : ByteArray), calcS a op b = (st, S.data.toList, M.data.toList) → Hid (∀ (k : Option Addr) (w1 : World), Below W.heap.size W w1 → Calls Tryz.prog 23 #[.pointer k, .string ⟨#[47]⟩, .string ⟨#[99, 97, 108, 99]⟩, .slice (some ⟨w1.heap.size, 0, none⟩) 3 3, .slice none 0 0] (w1.alloc (.cells #[.string a, .string op, .string b] 9)) (RunU st S.data.toList M.data.toList (w1.alloc (.cells #[.string a, .string op, .string b] 9)))) := fun st S M he k w1 hb1 =>
    run_calc (.pointer k) ⟨#[47]⟩ (.slice (some ⟨w1.heap.size, 0, none⟩) 3 3) (.slice none 0 0) st S.data.toList M.data.toList _ ⟨k, rfl⟩ ⟨_, _, _, rfl⟩ ⟨_, _, _, rfl⟩ fun t w2 hb hT => by
      have hc := calc_any _ t _ _ _ _ a op b w2 hT ((txt3 w1 a op b).below hb) (by omega) (by omega) (by omega) ((hTab.below (hb1.alloc hb1.size _)).below hb) (by have := hb.size; omega)
      rw [he] at hc
      exact hc
  have HRa : Hid (∀ w, Calls Tryz.prog 27 #[.string a] w fun e w' => e = .returned (.tuple #[.int .u64 ((Fl.ofL a.data.toList).1 : Nat), .bool (Fl.ofL a.data.toList).2]) ∧ Below w.heap.size w w') := fun w => Fl.Real_any a w (by omega)
  have HRb : Hid (∀ w, Calls Tryz.prog 27 #[.string b] w fun e w' => e = .returned (.tuple #[.int .u64 ((Fl.ofL b.data.toList).1 : Nat), .bool (Fl.ofL b.data.toList).2]) ∧ Below w.heap.size w w') := fun w => Fl.Real_any b w (by omega)
  have hxa := Fl.ofL_lt a.data.toList
  have hxb := Fl.ofL_lt b.data.toList
  unfold calcS at key
  generalize (Fl.ofL a.data.toList).1 = xa at HRa hxa key
  generalize (Fl.ofL b.data.toList).1 = xb at HRb hxb key
  generalize (Fl.ofL a.data.toList).2 = ka at HRa key
  generalize (Fl.ofL b.data.toList).2 = kb at HRb key
  have HOp : Hid (∀ w, Calls Tryz.prog 28 #[.string op, .int .u64 xa, .int .u64 xb] w fun e w' => e = .returned (.tuple #[.int .u64 ((Fl.opV op.data.toList xa xb).getD 0 : Nat), .bool (Fl.opV op.data.toList xa xb).isSome]) ∧ Below w.heap.size w w') := fun w => (Fl.Ref_all op xa xb hxa hxb w).mono fun e w' ⟨he, n, hw⟩ => ⟨he, by rw [hw]; exact drew_below w n⟩
  have HIs : Hid (∀ w, Calls Tryz.prog 29 #[.string op, .int .u64 xa, .int .u64 xb] w fun e w' => e = .returned (.tuple #[.bool ((Fl.isV op.data.toList xa xb).getD false), .bool (Fl.isV op.data.toList xa xb).isSome]) ∧ w' = w) := fun w => Fl.RIs_all op xa xb w
  have hz := Fl.opV_lt op.data.toList hxa hxb
  generalize (Fl.opV op.data.toList xa xb).getD 0 = z at HOp hz key
  generalize (Fl.opV op.data.toList xa xb).isSome = kz at HOp key
  generalize (Fl.isV op.data.toList xa xb).getD false = q at HIs key
  generalize (Fl.isV op.data.toList xa xb).isSome = kq at HIs key
  cases ka
  · exact law_a a op b W h1 h2 h3 xa xb z false kb kz kq q HRa HRb HOp HIs 2 ⟨#[]⟩ (logS a) (key 2 ⟨#[]⟩ (logS a) (by rw [logS_data]; rfl)) rfl rfl rfl rfl
  cases kb
  · exact law_b a op b W h1 h2 h3 xa xb z true false kz kq q HRa HRb HOp HIs 2 ⟨#[]⟩ (logS b) (key 2 ⟨#[]⟩ (logS b) (by rw [logS_data]; rfl)) rfl rfl rfl rfl rfl
  cases kz
  · cases kq
    · exact law_no a op b W h1 h2 h3 xa xb z true true false false q HRa HRb HOp HIs 2 ⟨#[]⟩ (logS op) (key 2 ⟨#[]⟩ (logS op) (by rw [logS_data]; rfl)) rfl rfl rfl rfl rfl rfl rfl
    · cases q
      · exact law_not a op b W h1 h2 h3 xa xb z true true false true false HRa HRb HOp HIs 1 ⟨#[]⟩ ⟨#[]⟩ (key 1 ⟨#[]⟩ ⟨#[]⟩ rfl) rfl rfl rfl rfl rfl rfl rfl rfl
      · exact law_yes a op b W h1 h2 h3 xa xb z true true false true true HRa HRb HOp HIs 0 ⟨#[]⟩ ⟨#[]⟩ (key 0 ⟨#[]⟩ ⟨#[]⟩ rfl) rfl rfl rfl rfl rfl rfl rfl rfl
  · exact law_op a op b W h1 h2 h3 xa xb z true true true kq q HRa HRb HOp HIs 0 (⟨(Fl.textL z).toArray⟩ ++ ⟨#[10]⟩) ⟨#[]⟩ (key 0 (⟨(Fl.textL z).toArray⟩ ++ ⟨#[10]⟩) ⟨#[]⟩ (by rw [ba_app]; rfl)) rfl rfl rfl rfl ⟨(Fl.textL z).toArray⟩ (Fl.textL_len hz) (fun w => Fl.RefText_any z hz w) rfl rfl
end Go.Proofs.YtcmjpkfinbakkaaGreatDoor
