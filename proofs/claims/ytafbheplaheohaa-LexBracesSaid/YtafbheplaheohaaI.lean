import Derived.Test.YtafbheplaheohaaH
import Derived.Test.YtafbheplaheohaaZ
namespace Go.Proofs.Ytafbheplaheohaa
open Go.RowKit
set_option linter.unusedVariables false

theorem cut_index (q : UInt8) : ∀ l : Bz, (cutAt q l = none ∧ Lib.indexByte l q = -1 ∧ l.contains q = false) ∨ ∃ t r, cutAt q l = some (t, r) ∧ Lib.indexByte l q = (t.length : Int) ∧ l = t ++ q :: r ∧ l.contains q = true
  | [] => .inl ⟨rfl, rfl, rfl⟩
  | c :: l => by
    by_cases e : c = q
    · subst e
      exact .inr ⟨[], l, by rw [cutAt, if_pos rfl], by rw [Lib.indexByte, if_pos (by simp)]; rfl, rfl, by simp⟩
    · rcases cut_index q l with ⟨h1, h2, h3⟩ | ⟨t, r, h1, h2, h3, h4⟩
      · refine .inl ⟨by rw [cutAt, if_neg e, h1]; rfl, by rw [Lib.indexByte, if_neg (by simpa using e), h2]; rfl, ?_⟩
        have hn : q ≠ c := fun x => e x.symm
        simp only [List.contains_cons, h3, Bool.or_false]
        simpa using hn
      · refine .inr ⟨c :: t, r, by rw [cutAt, if_neg e, h1]; rfl, ?_, by rw [h3]; rfl, by simp only [List.contains_cons, h4, Bool.or_true]⟩
        rw [Lib.indexByte, if_neg (by simpa using e), h2, if_neg (by simp), List.length_cons]; omega
/-- What Cut answers. -/
def cutA (q : UInt8) (s : ByteArray) : ByteArray × ByteArray × Bool := match cutAt q s.data.toList with
  | none => (s, ⟨#[]⟩, false)
  | some (t, r) => (⟨t.toArray⟩, ⟨r.toArray⟩, true)
def CutP (q : UInt8) (s : ByteArray) (w : World) (e : Ending) (w' : World) : Prop := e = .returned (.tuple #[.string (cutA q s).1, .string (cutA q s).2.1, .bool (cutA q s).2.2]) ∧ ∃ n, w' = w.drewN n
theorem drewN_zero (w : World) : w = w.drewN 0 := rfl
set_option maxRecDepth 100000 in
set_option maxHeartbeats 1000000 in
theorem cut_one (q : UInt8) (s : ByteArray) (w : World) (hs : s.size ≤ 1000000) : Calls Try.prog 44 #[.string s, .string ⟨#[q]⟩] w (CutP q s w) := by
  have HI := Lib.hid (fun w => Try.stringslite_Index_one s q w)
  obtain ⟨Q, hQ⟩ : ∃ Q, CutP q s w = Q := ⟨_, rfl⟩
  rw [hQ]
  have HQ := Lib.hid hQ
  obtain ⟨z, hz⟩ : ∃ z, Lib.indexByte s.data.toList q = z := ⟨_, rfl⟩
  rw [hz] at HI
  rcases cut_index q s.data.toList with ⟨h1, h2, _⟩ | ⟨t, r, h1, h2, h3, _⟩
  · rw [hz] at h2
    subst h2
    have H1 : Hid (cutA q s = (s, ⟨#[]⟩, false)) := by rw [Hid, cutA, h1]
    clear hQ hz h1
    go_enter Try.func44, Try.ntmps44
    go_wp2_with (go_at_call 57; refine (HI.out _).mono ?_; rintro e w1 ⟨rfl, h1⟩; obtain rfl := h1.symm; simp only [])
    rw [← HQ.out, CutP, H1.out]
    exact ⟨rfl, 0, drewN_zero _⟩
  · rw [hz] at h2
    subst h2
    have hlen : t.length + 1 + r.length = s.size := by rw [← dl, h3]; simp; omega
    obtain ⟨n, hn⟩ : ∃ n, t.length = n := ⟨_, rfl⟩
    have e1 := ext_dt (t := s) (a := 0) (b := n) (Nat.zero_le _) (by omega)
    have e2 := ext_end (t := s) (a := n + 1) (by omega)
    have hE1 : s.extract 0 n = ⟨t.toArray⟩ := ba_ext (by rw [e1.1, List.drop_zero, h3, ← hn, List.take_left])
    have hE2 : s.extract (n + 1) s.size = ⟨r.toArray⟩ := ba_ext (by rw [e2.1, h3, ← hn, ← List.drop_drop, List.drop_left]; rfl)
    have H1 : Hid (cutA q s = (s.extract 0 n, s.extract (n + 1) s.size, true)) := by rw [Hid, cutA, h1, hE1, hE2]
    rw [hn] at HI hlen
    have hd : decide ((0 : Int) ≤ (n : Int)) = true := decide_eq_true (by omega)
    have hw : IntKind.i64.wrap ((n : Int) + 1) = (n : Int) + 1 := IntWalk.i64_in _ (by omega)
    have hnI : (n : Int) ≤ (s.size : Int) := by omega
    have hnI2 : (n : Int) + 1 ≤ (s.size : Int) := by omega
    have hn0 : (0 : Int) ≤ (n : Int) := by omega
    have hn1 : (0 : Int) ≤ (n : Int) + 1 := by omega
    clear hQ hz h1 h3 e1 e2 hn hE1 hE2
    go_enter Try.func44, Try.ntmps44
    go_wp2_with (go_at_call 57; refine (HI.out _).mono ?_; rintro e w1 ⟨rfl, h1⟩; obtain rfl := h1.symm; simp only [])
    go_quiet (fail)
    go_wp2_with fail
    rw [← HQ.out, CutP, H1.out]
    exact ⟨rfl, nq, rfl⟩
set_option maxRecDepth 100000 in
set_option maxHeartbeats 1000000 in
theorem Cut_one (q : UInt8) (s : ByteArray) (w : World) (hs : s.size ≤ 1000000) : Calls Try.prog 32 #[.string s, .string ⟨#[q]⟩] w (CutP q s w) := by
  have HC := Lib.hid (cut_one q s w hs)
  obtain ⟨Q, hQ⟩ : ∃ Q, CutP q s w = Q := ⟨_, rfl⟩
  rw [hQ] at HC ⊢
  have HQ := Lib.hid hQ
  clear hQ
  go_enter Try.func32, Try.ntmps32
  go_wp2_with (go_at_call 44; refine HC.out.mono ?_; intro e w1 hq; rw [← HQ.out] at hq; obtain ⟨rfl, h2⟩ := hq; have H2 := Lib.hid h2; clear h2; simp only [])
  rw [← HQ.out]
  exact ⟨rfl, H2.out⟩
set_option maxRecDepth 100000 in
set_option maxHeartbeats 1000000 in
theorem Index_none (s : ByteArray) (w : World) : Calls Try.prog 57 #[.string s, .string ⟨#[]⟩] w fun e w' => e = .returned (.int .i64 0) ∧ w' = w := by
  go_enter Try.func57, Try.ntmps57
  go_wp2_with fail
  go_ret
  exact ⟨rfl, rfl⟩
set_option maxRecDepth 100000 in
set_option maxHeartbeats 1000000 in
theorem Contains_none (s : ByteArray) (w : World) : Calls Try.prog 29 #[.string s, .string ⟨#[]⟩] w fun e w' => e = .returned (.bool true) ∧ w' = w := by
  have HI := Lib.hid (fun w => Index_none s w)
  have HX : Hid (∀ w, Calls Try.prog 42 #[.string s, .string ⟨#[]⟩] w fun e w' => e = .returned (.int .i64 0) ∧ w' = w) := by
    intro w
    go_enter Try.func42, Try.ntmps42
    go_wp2_with (go_at_call 57; refine (HI.out _).mono ?_; rintro e w1 ⟨rfl, h1⟩; obtain rfl := h1.symm; simp only [])
    go_ret
    exact ⟨rfl, rfl⟩
  go_enter Try.func29, Try.ntmps29
  go_wp2_with (go_at_call 42; refine (HX.out _).mono ?_; rintro e w1 ⟨rfl, h1⟩; obtain rfl := h1.symm; simp only [])
  go_ret
  exact ⟨rfl, rfl⟩
theorem contains_idx (q : UInt8) (l : Bz) : decide (0 ≤ Lib.indexByte l q) = l.contains q := by
  rcases cut_index q l with ⟨_, h2, h3⟩ | ⟨t, r, _, h2, _, h3⟩
  · rw [h2, h3]; rfl
  · rw [h2, h3]; simp
set_option maxRecDepth 100000 in
set_option maxHeartbeats 1000000 in
theorem readable_any (s : ByteArray) (w : World) (hs : s.size ≤ 9000000000000000000) : Calls Try.prog 19 #[.string s] w fun e w' => e = .returned (.int .i64 (mayN s.data.toList)) ∧ w' = w := by
  have HC := Lib.hid (fun w => Try.strings_Contains_one s 0 w)
  rw [contains_idx] at HC
  obtain ⟨r, hr⟩ : ∃ r, mayN s.data.toList = r := ⟨_, rfl⟩
  obtain ⟨z, hz⟩ : ∃ z, s.data.toList.contains 0 = z := ⟨_, rfl⟩
  rw [hz] at HC
  have HR : Hid (r = if 16384 < s.size then 3 else if z = true then 2 else 0) := by rw [Hid, ← hr, ← hz, mayN, dl]
  rw [hr]
  have hsI : (s.size : Int) ≤ 9000000000000000000 := by omega
  clear hr hz
  by_cases hl : 16384 < s.size
  · have hd : decide ((16384 : Int) < (s.size : Int)) = true := decide_eq_true (by omega)
    have H : Hid (r = 3) := by rw [Hid, HR.out, if_pos hl]
    clear hl
    go_enter Try.func19, Try.ntmps19
    go_wp2_with fail
    go_ret
    rw [H.out]
    exact ⟨rfl, rfl⟩
  · have hd : decide ((16384 : Int) < (s.size : Int)) = false := decide_eq_false (by omega)
    have H : Hid (r = if z = true then 2 else 0) := by rw [Hid, HR.out, if_neg hl]
    clear hl
    cases z
    all_goals
      go_enter Try.func19, Try.ntmps19
      go_wp2_with (go_at_call 29; refine (HC.out _).mono ?_; rintro e w1 ⟨rfl, h1⟩; obtain rfl := h1.symm; simp only [])
      go_ret
      rw [H.out]
      exact ⟨rfl, rfl⟩
set_option maxRecDepth 100000 in
set_option maxHeartbeats 1000000 in
theorem separates_any (c : UInt8) (w : World) : Calls Try.prog 58 #[.int .u8 c.toNat] w fun e w' => e = .returned (.bool (separates c)) ∧ w' = w := by
  have HS := Lib.hid (fun w => Space_any c w)
  have HI := Lib.hid (fun w => Try.strings_IndexByte ⟨#[59, 38, 124, 40, 41, 60, 62]⟩ c.toNat w)
  have hc : ((c.toNat : Int).toNat).toUInt8 = c := by simp
  rw [hc] at HI
  have hx := contains_idx c [59, 38, 124, 40, 41, 60, 62]
  obtain ⟨r, hr⟩ : ∃ r, separates c = r := ⟨_, rfl⟩
  obtain ⟨x, hx1⟩ : ∃ x, isSpace c = x := ⟨_, rfl⟩
  obtain ⟨y, hy1⟩ : ∃ y, [59, 38, 124, 40, 41, 60, 62].contains c = y := ⟨_, rfl⟩
  have HR : Hid (r = (x || y)) := by rw [Hid, ← hr, ← hx1, ← hy1]; rfl
  rw [hx1] at HS
  rw [hy1] at hx
  obtain ⟨z, hz⟩ : ∃ z, Lib.indexByte [59, 38, 124, 40, 41, 60, 62] c = z := ⟨_, rfl⟩
  have HI2 : Hid (∀ w, Calls Try.prog 73 #[.string ⟨#[59, 38, 124, 40, 41, 60, 62]⟩, .int .u8 c.toNat] w fun e w' => e = .returned (.int .i64 z) ∧ w' = w) := by rw [Hid, ← hz]; exact HI.out
  rw [hz] at hx
  rw [hr]
  clear hr hx1 hy1 hz HI hc
  cases x <;> cases y
  all_goals
    go_enter Try.func58, Try.ntmps58
    go_wp2_with (first
      | (go_at_call 72; refine (HS.out _).mono ?_; rintro e w1 ⟨rfl, h1⟩; obtain rfl := h1.symm; simp only [])
      | (go_at_call 73; refine (HI2.out _).mono ?_; rintro e w1 ⟨rfl, h1⟩; obtain rfl := h1.symm; simp only []))
    go_ret
    rw [HR.out]
    exact ⟨rfl, rfl⟩
set_option maxRecDepth 100000 in
set_option maxHeartbeats 1000000 in
theorem ends_any (e : Nat) (c : UInt8) (w : World) (he : e ≤ 3) : Calls Try.prog 45 #[.int .i64 e, .int .u8 c.toNat] w fun x w' => x = .returned (.bool (endsB e c)) ∧ w' = w := by
  have HS := Lib.hid (fun w => separates_any c w)
  have h1 := byte_eq c 125
  have h2 := byte_eq c 34
  rw [show ((125 : UInt8).toNat : Int) = 125 from rfl] at h1
  rw [show ((34 : UInt8).toNat : Int) = 34 from rfl] at h2
  obtain ⟨x, hx⟩ : ∃ x, (c == 125) = x := ⟨_, rfl⟩
  obtain ⟨y, hy⟩ : ∃ y, (c == 34) = y := ⟨_, rfl⟩
  obtain ⟨z, hz⟩ : ∃ z, separates c = z := ⟨_, rfl⟩
  obtain ⟨r, hr⟩ : ∃ r, endsB e c = r := ⟨_, rfl⟩
  have HR : Hid (r = if e = 1 then z else if e = 2 then x else if e = 3 then y else false) := by rw [Hid, ← hr, ← hx, ← hy, ← hz]; rfl
  rw [hx] at h1
  rw [hy] at h2
  rw [hz] at HS
  rw [hr]
  clear hr hx hy hz
  have h4 : e = 0 ∨ e = 1 ∨ e = 2 ∨ e = 3 := by omega
  rcases h4 with rfl | rfl | rfl | rfl
  all_goals
    go_enter Try.func45, Try.ntmps45
    go_wp2_with (go_at_call 58; refine (HS.out _).mono ?_; rintro e w1 ⟨rfl, h1⟩; obtain rfl := h1.symm; simp only [])
    go_ret
    rw [HR.out]
    exact ⟨rfl, rfl⟩
end Go.Proofs.Ytafbheplaheohaa
