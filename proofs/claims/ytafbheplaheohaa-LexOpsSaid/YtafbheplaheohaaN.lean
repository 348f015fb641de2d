import Derived.Test.YtafbheplaheohaaM
namespace Go.Proofs.Ytafbheplaheohaa
open Go.RowKit
set_option linter.unusedVariables false

/-- A reader of S at block rb, that has come to a. -/
def Rd (w : World) (rb : Nat) (S : ByteArray) (a : Nat) : Prop := w.heap[rb]? = some (.cells [.string S, .int .i64 a].toArray 53 (0, 0))
/-- What reading leaves as it was: all but the reader and what stands from B on. -/
abbrev Rb (B rb : Nat) : World → World → Prop := Only fun k => k = rb ∨ B ≤ k
theorem Rb.trans {B rb : Nat} {a b c : World} (h : Rb B rb a b) (k : Rb B rb b c) : Rb B rb a c := Only.trans h k (fun _ h => h) (fun _ _ h => h)
theorem Rb.of_below {B rb : Nat} {a b : World} (h : Below B a b) (hB : B ≤ a.heap.size) : Rb B rb a b := ⟨h.os, h.tape, h.output, h.size, fun k hk hn => h.block k (by have := fun e => hn (Or.inr e); omega)⟩
theorem Rb.of_new {B rb : Nat} {a b : World} (h : Below a.heap.size a b) : Rb B rb a b := Only.of_below h
theorem Rd.set {w : World} {rb a : Nat} {S : ByteArray} (h : Rd w rb S a) (a' : Nat) : Rd (w.setCell ⟨rb, 1, none⟩ (.int .i64 a')) rb S a' := set_of h 1 _
theorem Rd.below {w w' : World} {B rb a : Nat} {S : ByteArray} (h : Rd w rb S a) (hb : Below B w w') (hr : rb < B) : Rd w' rb S a := (hb.block rb hr).trans h
theorem Rd.under {w w' : World} {rb a : Nat} {S : ByteArray} (h : Rd w rb S a) (hb : Below w.heap.size w w') : Rd w' rb S a := (hb.block rb (blk_lt h)).trans h
theorem Rb.set {B rb : Nat} (w : World) (i : Nat) (u : Value) : Rb B rb w (w.setCell ⟨rb, i, none⟩ u) := (Only.refl _ w).set (.inl (.inl rfl)) i u
/-- The reader's store leaves what is gathered. -/
theorem PAt.rd {w : World} {B pb rb a : Nat} {S : ByteArray} {lv : Value} {p : PS} (h : PAt w B pb lv p) (hr : Rd w rb S a) (i : Nat) (u : Value) : PAt (w.setCell ⟨rb, i, none⟩ u) B pb lv p :=
  h.keep fun g c ty _ ht hc => (heap_other (cells_ne hc hr (by rcases ht with rfl | rfl | rfl <;> decide)) _ _).trans hc
/-- Where a reader and the parts stand behind a call. -/
structure Rs (w0 w : World) (B rb pb : Nat) (S : ByteArray) (a : Nat) (p : PS) : Prop where
  rd : Rd w rb S a
  le : a ≤ S.size
  only : Rb B rb w0 w
  p : ∃ lv, PAt w B pb lv p
def EscP (w : World) (B rb pb : Nat) (S : ByteArray) (x : PS × Bz) (e : Ending) (w' : World) : Prop := e = .returned (.tuple #[]) ∧ ∃ a', Rs w w' B rb pb S a' x.1 ∧ S.data.toList.drop a' = x.2
set_option maxRecDepth 100000 in
set_option maxHeartbeats 4000000 in
theorem escape_any {w : World} {B rb pb a : Nat} {lv : Value} {p : PS} {S : ByteArray} (q : Bool) (hp : PAt w B pb lv p) (hz : p.sz ≤ 90000) (hB : B ≤ w.heap.size) (hr : Rd w rb S a) (hrb : rb < B) (ha : a < S.size) (hs : S.size ≤ 20000) :
    Calls Try.prog 46 #[.pointer (some ⟨rb, 0, none⟩), .pointer (some ⟨pb, 0, none⟩), .bool q] w (EscP w B rb pb S (escF q p (S.data.toList.drop (a + 1)))) := by
  obtain ⟨X, hX⟩ : ∃ X, escF q p (S.data.toList.drop (a + 1)) = X := ⟨_, rfl⟩
  obtain ⟨Q, hQ⟩ : ∃ Q, EscP w B rb pb S (escF q p (S.data.toList.drop (a + 1))) = Q := ⟨_, rfl⟩
  rw [hQ]
  rw [hX] at hQ
  have HQ := Lib.hid hQ
  have q0 : w.cell? ⟨rb, 0, none⟩ = some (.string S) := cell_of hr 0
  have q1 : w.cell? ⟨rb, 1, none⟩ = some (.int .i64 a) := cell_of hr 1
  have f1 := free_of hr 1
  have haI : (a : Int) < (S.size : Int) := by omega
  have ha1 : IntKind.i64.wrap ((a : Int) + 1) = (a : Int) + 1 := IntWalk.i64_in _ (by omega)
  have ha2 : IntKind.i64.wrap ((a : Int) + 2) = (a : Int) + 2 := IntWalk.i64_in _ (by omega)
  obtain ⟨m, hm⟩ : ∃ m : Nat, min (a + 2) S.size = m := ⟨_, rfl⟩
  have hmI : min ((a : Int) + 2) (S.size : Int) = (m : Int) := by omega
  have hma : a + 1 ≤ m := by omega
  have hmS : m ≤ S.size := by omega
  have e1 : (a : Int) + 1 ≤ (m : Int) := by omega
  have e2 : (m : Int) ≤ (S.size : Int) := by omega
  have e3 : (0 : Int) ≤ (a : Int) + 1 := by omega
  have hnx := ext_dt (t := S) (a := a + 1) (b := m) hma hmS
  obtain ⟨NX, hNX⟩ : ∃ NX, S.extract (a + 1) m = NX := ⟨_, rfl⟩
  rw [hNX] at hnx
  have HR := Lib.hid hr
  have HP := Lib.hid hp
  -- where it goes on, and what is put
  have HGO : Hid (∀ (w1 : World) (n : Nat) (ai : Int) (s : ByteArray), ai = ((a + n : Nat) : Int) → Below w.heap.size w w1 → a + n ≤ S.size → n ≤ 2 → s.size ≤ 1 → Rd (w1.setCell ⟨rb, 1, none⟩ (.int .i64 ai)) rb S (a + n) ∧ Rb B rb w (w1.setCell ⟨rb, 1, none⟩ (.int .i64 ai)) ∧ PAt (w1.setCell ⟨rb, 1, none⟩ (.int .i64 ai)) B pb lv p ∧
      Calls Try.prog 50 #[.pointer (some ⟨pb, 0, none⟩), .int .i64 2, .string s] (w1.setCell ⟨rb, 1, none⟩ (.int .i64 ai)) fun e w' => e = .returned (.tuple #[]) ∧ Rs w w' B rb pb S (a + n) (p.put 2 s.data.toList)) := by
    intro w1 n ai s hai hb hn h2 hs1
    subst hai
    have hr1 := hr.under hb
    have hp1 := (hp.under hb).rd hr1 1 (.int .i64 (a + n : Nat))
    have hsz : (w1.setCell ⟨rb, 1, none⟩ (.int .i64 (a + n : Nat))).heap.size = w1.heap.size := by simp
    have hB1 : B ≤ (w1.setCell ⟨rb, 1, none⟩ (.int .i64 (a + n : Nat))).heap.size := by rw [hsz]; exact Nat.le_trans hB hb.size
    have ho : Rb B rb w (w1.setCell ⟨rb, 1, none⟩ (.int .i64 (a + n : Nat))) := Rb.trans (Rb.of_new hb) (Rb.set _ _ _)
    refine ⟨hr1.set _, ho, hp1, (put_any hp1 (by omega) hB1 2 s (by omega)).mono ?_⟩
    rintro e w' ⟨rfl, lv', g1, g2, g3⟩
    exact ⟨rfl, (hr1.set (a + n)).below g2 hrb, hn, Rb.trans ho (Rb.of_below g2 hB1), lv', g1⟩
  by_cases hend : a + 1 = S.size
  · have hN0 : NX = ⟨#[]⟩ := ba_ext (by rw [hnx.1, List.drop_of_length_le (by rw [List.length_take, dl]; omega)])
    have HX : Hid (X = (p.put 2 [92], [])) := by rw [Hid, ← hX, hend, List.drop_of_length_le (by rw [dl]; exact Nat.le_refl _)]; rfl
    have HD : Hid (S.data.toList.drop (a + 1) = []) := List.drop_of_length_le (by rw [dl]; omega)
    subst hN0
    have HCN := Lib.hid (fun s w => Contains_none s w)
    have HG := Lib.hid (fun w1 hb => (HGO.out w1 1 ((a : Int) + 1) ⟨#[92]⟩ (by omega) hb (by omega) (by omega) (by decide)).2.2.2)
    clear hQ hX hp hr hm hnx hend
    cases q
    all_goals
      go_enter Try.func46, Try.ntmps46
      go_wp2_with fail
      go_quiet (fail)
      have hbn := drew_below w nq
      have HBN := Lib.hid hbn
      clear hbn
      go_wp2_with (first
        | (go_at_call 29; refine (HCN.out _ _).mono ?_; rintro e w1 ⟨rfl, h1⟩; obtain rfl := h1.symm; simp only [])
        | (go_at_call 50; refine (HG.out _ HBN.out).mono ?_; rintro e w1 ⟨rfl, h1⟩; have H1 := Lib.hid h1; clear h1; simp only []))
      go_end0
      rw [← HQ.out, HX.out]
      exact ⟨rfl, a + 1, H1.out, HD.out⟩
  · have hlt : a + 1 < S.size := by omega
    have hat := data_get S (a + 1) hlt
    obtain ⟨c, hc⟩ : ∃ c, S[a + 1]'hlt = c := ⟨_, rfl⟩
    rw [hc] at hat
    have hdr := at_drop hat
    have hm2 : m = a + 2 := by omega
    have hN1 : NX.data.toList = [c] := by
      have h1 : S.data.toList.take (a + 2) = S.data.toList.take (a + 1) ++ [c] := by
        rw [List.take_add_one, hat]; rfl
      rw [hnx.1, hm2, h1, List.drop_append_of_le_length (by rw [List.length_take, dl]; omega), List.drop_of_length_le (by rw [List.length_take, dl]; omega)]
      rfl
    have hns : NX.size = 1 := by rw [← dl, hN1]; rfl
    have hnE : NX.toList.isEmpty = false := isE_ne (by rw [hN1]; simp)
    have hn10 : (NX.toList == [10]) = (c == 10) := by rw [Lib.toList_data, hN1]; simp
    obtain ⟨z10, hz10⟩ : ∃ z, (c == 10) = z := ⟨_, rfl⟩
    rw [hz10] at hn10
    have HCO := Lib.hid (fun w => Try.strings_Contains_one ⟨#[36, 34, 92, 96, 10]⟩ c w)
    have hNX1 : NX = ⟨#[c]⟩ := ba_ext hN1
    rw [contains_idx, ← hNX1] at HCO
    obtain ⟨zc, hzc⟩ : ∃ z, (⟨#[36, 34, 92, 96, 10]⟩ : ByteArray).data.toList.contains c = z := ⟨_, rfl⟩
    rw [hzc] at HCO
    have HX : Hid (X = if q && !zc then (p.put 2 [92], c :: S.data.toList.drop (a + 2)) else if z10 = true then (p, S.data.toList.drop (a + 2)) else (p.put 2 [c], S.data.toList.drop (a + 2))) := by
      rw [Hid, ← hX, hdr, escF, ← hzc, ← hz10]
      simp only [beq_iff_eq]
      rfl
    have HD1 : Hid (S.data.toList.drop (a + 1) = c :: S.data.toList.drop (a + 2)) := hdr
    have HG1 := Lib.hid (fun w1 hb => (HGO.out w1 1 ((a : Int) + 1) ⟨#[92]⟩ (by omega) hb (by omega) (by omega) (by decide)).2.2.2)
    have HG2 := Lib.hid (fun w1 hb => (HGO.out w1 2 ((a : Int) + 2) NX (by omega) hb (by omega) (by omega) (by omega)).2.2.2)
    have HG3 := Lib.hid (fun w1 hb => HGO.out w1 2 ((a : Int) + 2) ⟨#[]⟩ (by omega) hb (by omega) (by omega) (by decide))
    rw [hN1] at HG2
    have hle2 : a + 2 ≤ S.size := by omega
    have HPP := Lib.hid hp
    clear hQ hX hp hr hm hnx hend hat hdr hN1 hz10 hNX1 hzc hm2 hlt hc
    cases q <;> cases zc <;> cases z10
    all_goals
      go_enter Try.func46, Try.ntmps46
      go_wp2_with fail
      go_quiet (fail)
      have hbn := drew_below w nq
      have HBN := Lib.hid hbn
      clear hbn
      go_wp2_with (first
        | (go_at_call 29; refine (HCO.out _).mono ?_; rintro e w1 ⟨rfl, h1⟩; obtain rfl := h1.symm; simp only [])
        | (go_at_call 50; first
            | ((with_reducible refine (HG1.out _ HBN.out).mono ?_); rintro e w1 ⟨rfl, h1⟩; have H1 := Lib.hid h1; clear h1; simp only [])
            | ((with_reducible refine (HG2.out _ HBN.out).mono ?_); rintro e w1 ⟨rfl, h1⟩; have H1 := Lib.hid h1; clear h1; simp only [])))
      go_end0
      rw [← HQ.out, HX.out]
      first
        | exact ⟨rfl, a + 1, H1.out, HD1.out⟩
        | exact ⟨rfl, a + 2, H1.out, rfl⟩
        | (obtain ⟨g1, g2, g3, _⟩ := HG3.out _ HBN.out
           exact ⟨rfl, a + 2, ⟨g1, hle2, g2, _, g3⟩, rfl⟩)
end Go.Proofs.Ytafbheplaheohaa
