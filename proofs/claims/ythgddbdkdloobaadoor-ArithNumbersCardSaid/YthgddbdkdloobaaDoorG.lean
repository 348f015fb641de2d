import Derived.Test.YthgddbdkdloobaaDoorF
namespace Go.Proofs.YthgddbdkdloobaaDoor
open Go.RowKit
set_option linter.unusedVariables false

theorem cast1 (k : Nat) : (k : Int) + 1 = ((k + 1 : Nat) : Int) := rfl
/-- What a cell counts. -/
def atW (B off : Nat) (w : World) : Nat := (intOf ((w.cell? ⟨B, off, none⟩).getD (.int .i64 0))).toNat
theorem atW_of {B off : Nat} {w : World} {k : Nat} (h : w.cell? ⟨B, off, none⟩ = some (.int .i64 k)) : atW B off w = k := by
  unfold atW; rw [h]; simp [intOf]
/-- Where the blanks end. -/
def spos (s : ByteArray) (p : Nat) : Nat := s.size - (skp (s.data.toList.drop p)).length
theorem spos_le (s : ByteArray) (p : Nat) (hp : p ≤ s.size) : p ≤ spos s p ∧ spos s p ≤ s.size := by
  have h := skp_len (s.data.toList.drop p)
  rw [List.length_drop, dlen] at h
  unfold spos; omega
theorem dropWhile_eq_drop {p : UInt8 → Bool} : ∀ l : Bs, l.dropWhile p = l.drop (l.length - (l.dropWhile p).length)
  | [] => rfl
  | c :: l => by
    rw [List.dropWhile_cons]
    split
    · have h := dropWhile_eq_drop (p := p) l
      have h2 := (List.dropWhile_suffix p (l := l)).length_le
      rw [List.length_cons, show l.length + 1 - (l.dropWhile p).length = (l.length - (l.dropWhile p).length) + 1 by omega, List.drop_succ_cons]
      exact h
    · simp
theorem spos_drop (s : ByteArray) (p : Nat) (hp : p ≤ s.size) : s.data.toList.drop (spos s p) = skp (s.data.toList.drop p) := by
  have h := skp_len (s.data.toList.drop p)
  have e := dropWhile_eq_drop (p := isBl) (s.data.toList.drop p)
  rw [List.length_drop, dlen, List.drop_drop] at e
  rw [List.length_drop, dlen] at h
  change skp (s.data.toList.drop p) = s.data.toList.drop (p + (s.size - p - (skp (s.data.toList.drop p)).length)) at e
  rw [show p + (s.size - p - (skp (s.data.toList.drop p)).length) = spos s p by unfold spos; omega] at e
  exact e.symm
theorem spos_of {s : ByteArray} {p k : Nat} (hp : p ≤ k) (hk : k ≤ s.size) (h1 : ∀ j, p ≤ j → j < k → isBl (gb s j) = true) (h2 : k = s.size ∨ isBl (gb s k) = false) : spos s p = k := by
  have key : ∀ n p, k - p = n → p ≤ k → (∀ j, p ≤ j → j < k → isBl (gb s j) = true) → skp (s.data.toList.drop p) = s.data.toList.drop k := by
    intro n
    induction n with
    | zero =>
      intro p hn hp h1
      obtain rfl : p = k := by omega
      rcases h2 with h2 | h2
      · rw [List.drop_eq_nil_of_le (by rw [dlen]; omega)]; rfl
      · by_cases hlt : p < s.size
        · unfold skp
          rw [drop_gb hlt, List.dropWhile_cons, h2, if_neg Bool.false_ne_true]
        · rw [List.drop_eq_nil_of_le (by rw [dlen]; omega)]; rfl
    | succ n ih =>
      intro p hn hp h1
      have hb := h1 p (Nat.le_refl _) (by omega)
      have hlt : p < s.size := by omega
      unfold skp
      rw [drop_gb hlt, List.dropWhile_cons, hb, if_pos rfl]
      exact ih (p + 1) (by omega) (by omega) (fun j h3 h4 => h1 j (by omega) h4)
  have e := key _ p rfl hp h1
  unfold spos
  rw [e, List.length_drop, dlen]; omega
set_option maxRecDepth 100000 in
set_option maxHeartbeats 2000000 in
theorem skip_any (s : ByteArray) (pv : Value) (p d : Nat) (z : Bool) (B : Nat) (w : World) (hs : s.size ≤ 1000000) (hp : p ≤ s.size) (h : Rd w B s pv p d z) :
    Calls Tryd.prog 21 #[.pointer (some ⟨B, 0, none⟩)] w fun e w' => e = .returned (.tuple #[]) ∧ Kp B w w' ∧ Rd w' B s pv (spos s p) d z := by
  obtain ⟨Q, hQ⟩ : ∃ Q, spos s p = Q := ⟨_, rfl⟩
  rw [hQ]
  have HQ := Lib.hid hQ
  have HH := Lib.hid h
  clear hQ h
  go_enter Tryd.func21, Tryd.ntmps21
  go_wp2_with fail
  go_loopw [] (fun wr => ∃ k : Nat, p ≤ k ∧ k ≤ s.size ∧ Hid (Kp B w wr) ∧ Hid (Rd wr B s pv k d z) ∧ Hid (∀ j, p ≤ j → j < k → isBl (gb s j) = true)) (fun wr => s.size - atW B 1 wr)
  case atStart => exact ⟨p, Nat.le_refl _, hp, Kp.refl _ _, HH.out, fun j h1 h2 => by omega⟩
  case round =>
    obtain ⟨k, hpk, hk, HK, HR, HB⟩ := hrel
    have c0 := HR.out.c0
    have c1 := HR.out.c1
    have f1 := HR.out.f1
    by_cases hlt : k < s.size
    · have hltI : (k : Int) < (s.size : Int) := by omega
      have hgb := gb_eq s k hlt
      obtain ⟨c, hc⟩ : ∃ c, gb s k = c := ⟨_, rfl⟩
      have HC := Lib.hid hc
      rw [hc] at hgb
      clear hc
      have hsp := fun w => Space_any c w
      obtain ⟨b, hb⟩ : ∃ b, isBl c = b := ⟨_, rfl⟩
      have HBB := Lib.hid hb
      rw [hb] at hsp
      have HSP := Lib.hid hsp
      clear hb hsp
      cases b
      · have HE : Hid (Q = k) := by rw [Hid, ← HQ.out]; exact spos_of hpk hk HB.out (.inr (by rw [HC.out]; exact HBB.out))
        go_wp2_with fail
        go_quiet ((go_at_call 29; exact Calls.quiet_of_same (HSP.out _)))
        go_wp2_with fail
        go_returns
        exact ⟨rfl, HK.out.trans (Kp.drewN _ _ _), by rw [HE.out]; exact HR.out.drewN _⟩
      · go_wp2_with fail
        go_quiet ((go_at_call 29; exact Calls.quiet_of_same (HSP.out _)))
        go_wp2_with fail
        have HR2 := (HR.out.drewN nq).set1 (k + 1)
        rw [cast1 k]
        refine ⟨⟨k + 1, by omega, by omega, (HK.out.trans (Kp.drewN _ _ _)).trans (Kp.setCell _ _ _ _), HR2, ?_⟩, ?_⟩
        · intro j h1 h2
          by_cases hj : j = k
          · rw [hj, HC.out]; exact HBB.out
          · exact HB.out j h1 (by omega)
        · rw [atW_of HR2.c1, atW_of c1]; omega
    · have hltI : ¬ (k : Int) < (s.size : Int) := by omega
      have HE : Hid (Q = k) := by rw [Hid, ← HQ.out]; exact spos_of hpk hk HB.out (.inl (by omega))
      go_wp2_with fail
      go_quiet (fail)
      go_wp2_with fail
      go_returns
      exact ⟨rfl, HK.out.trans (Kp.drewN _ _ _), by rw [HE.out]; exact HR.out.drewN _⟩
/-! The operator that stands there. -/
def opS (s : ByteArray) (p : Nat) : ByteArray := ⟨(opL (s.data.toList.drop p)).toArray⟩
theorem opS_data (s : ByteArray) (p : Nat) : (opS s p).data.toList = opL (s.data.toList.drop p) := rfl
theorem idx_iff (l : Bs) (c : UInt8) : decide (0 ≤ Lib.indexByte l c) = l.contains c := by
  induction l with
  | nil => rfl
  | cons a t ih =>
    unfold Lib.indexByte
    rw [List.contains_cons]
    by_cases h : a = c
    · subst h; simp
    · have h1 : (a == c) = false := by simpa using h
      have h2 : (c == a) = false := by simpa using fun e => h e.symm
      rw [h1, h2, Bool.false_or, ← ih]
      simp only [Bool.false_eq_true, if_false]
      by_cases h3 : Lib.indexByte t c = -1
      · rw [h3]; rfl
      · have h4 : (Lib.indexByte t c == -1) = false := by simpa using h3
        rw [h4]
        simp only [Bool.false_eq_true, if_false]
        rw [decide_eq_decide]
        have : -1 ≤ Lib.indexByte t c := by
          have : ∀ t : Bs, -1 ≤ Lib.indexByte t c := by
            intro t
            induction t with
            | nil => show (-1 : Int) ≤ -1; omega
            | cons a t ih => unfold Lib.indexByte; split <;> (try split) <;> omega
          exact this t
        omega
theorem IndexOps (c : UInt8) (w : World) : ∃ i : Int, (0 ≤ i ↔ ones.contains c = true) ∧ ∀ w, Calls Tryd.prog 39 #[.string ⟨#[124, 94, 38, 60, 62, 43, 45, 42, 47, 37, 33, 126, 40, 41]⟩, .int .u8 c.toNat] w fun e w' => e = .returned (.int .i64 i) ∧ w' = w := by
  refine ⟨Lib.indexByte ones c, ?_, fun w => ?_⟩
  · rw [← idx_iff, decide_eq_true_iff]
  · have := Tryd.strings_IndexByte ⟨#[124, 94, 38, 60, 62, 43, 45, 42, 47, 37, 33, 126, 40, 41]⟩ (c.toNat : Int) w
    have e : ((c.toNat : Int).toNat).toUInt8 = c := by simp
    rw [e] at this
    exact this
/-- The cases of an operator: one of the two-byte ones; one of the one-byte ones; none. -/
theorem opL_two {r : Bs} (h : r.take 2 ∈ twos) : opL r = r.take 2 := by
  unfold opL; rw [if_pos (by simpa using h)]
theorem opL_one {r : Bs} {c : UInt8} (h : ¬ r.take 2 ∈ twos) (h1 : r.headD 0 = c) (h2 : ones.contains c = true) : opL r = r.take 1 := by
  unfold opL; rw [if_neg (by simpa using h), h1, if_pos h2]
theorem opL_no {r : Bs} {c : UInt8} (h : ¬ r.take 2 ∈ twos) (h1 : r.headD 0 = c) (h2 : ones.contains c = false) : opL r = [] := by
  unfold opL; rw [if_neg (by simpa using h), h1, if_neg (by rw [h2]; simp)]
end Go.Proofs.YthgddbdkdloobaaDoor
