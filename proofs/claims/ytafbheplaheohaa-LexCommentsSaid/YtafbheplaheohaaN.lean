import Derived.Test.YtafbheplaheohaaI
import Derived.Test.YtafbheplaheohaaME
namespace Go.Proofs.Ytafbheplaheohaa
open Go.RowKit
set_option linter.unusedVariables false

/-- A reader of S at block rb, that has come to a. -/
def Rd (w : World) (rb : Nat) (S : ByteArray) (a : Nat) : Prop := w.heap[rb]? = some (.cells [.string S, .int .i64 a].toArray 53 (0, 0))
/-- What reading leaves as it was: all but the reader and what stands from B on. -/
abbrev Rb (B rb : Nat) : World → World → Prop := Only fun k => k = rb ∨ B ≤ k
theorem Rb.trans {B rb : Nat} {a b c : World} (h : Rb B rb a b) (k : Rb B rb b c) : Rb B rb a c := Only.trans h k (fun _ h => h) (fun _ _ h => h)
theorem Rb.of_below {B rb : Nat} {a b : World} (h : Below B a b) (hB : B ≤ a.heap.size) : Rb B rb a b := ⟨h.os, h.tape, h.output, h.size, fun k hk hn => h.block k (by have := fun e => hn (Or.inr e); omega)⟩
theorem Rb.of_new {B rb : Nat} {a b : World} (h : Below a.heap.size a b) : Rb B rb a b := Only.of_below h
theorem Rd.set {w : World} {rb a : Nat} {S : ByteArray} (h : Rd w rb S a) (a' : Nat) : Rd (w.setCell ⟨rb, 1, none⟩ (.int .i64 a')) rb S a' := set_of h 1 _
theorem Rd.below {w w' : World} {B rb a : Nat} {S : ByteArray} (h : Rd w rb S a) (hb : Below B w w') (hr : rb < B) : Rd w' rb S a := (hb.block rb hr).trans h
theorem Rd.under {w w' : World} {rb a : Nat} {S : ByteArray} (h : Rd w rb S a) (hb : Below w.heap.size w w') : Rd w' rb S a := (hb.block rb (blk_lt h)).trans h
theorem Rb.set {B rb : Nat} (w : World) (i : Nat) (u : Value) : Rb B rb w (w.setCell ⟨rb, i, none⟩ u) := (Only.refl _ w).set (.inl (.inl rfl)) i u
/-- The reader's store leaves what is gathered. -/
theorem PAt.rd {w : World} {B pb rb a : Nat} {S : ByteArray} {lv : Value} {p : PS} (h : PAt w B pb lv p) (hr : Rd w rb S a) (i : Nat) (u : Value) : PAt (w.setCell ⟨rb, i, none⟩ u) B pb lv p :=
  h.keep fun g c ty _ ht hc => (heap_other (cells_ne hc hr (by rcases ht with rfl | rfl | rfl <;> decide)) _ _).trans hc
/-- Where a reader and the parts stand behind a call. -/
structure Rs (w0 w : World) (B rb pb : Nat) (S : ByteArray) (a : Nat) (p : PS) : Prop where
  rd : Rd w rb S a
  le : a ≤ S.size
  only : Rb B rb w0 w
  p : ∃ lv, PAt w B pb lv p
def EscP (w : World) (B rb pb : Nat) (S : ByteArray) (x : PS × Bz) (e : Ending) (w' : World) : Prop := e = .returned (.tuple #[]) ∧ ∃ a', Rs w w' B rb pb S a' x.1 ∧ S.data.toList.drop a' = x.2
set_option maxRecDepth 100000 in
set_option maxHeartbeats 4000000 in
theorem escape_any {w : World} {B rb pb a : Nat} {lv : Value} {p : PS} {S : ByteArray} (q : Bool) (hp : PAt w B pb lv p) (hz : p.sz ≤ 90000) (hB : B ≤ w.heap.size) (hr : Rd w rb S a) (hrb : rb < B) (ha : a < S.size) (hs : S.size ≤ 20000) :
    Calls Try.prog 46 #[.pointer (some ⟨rb, 0, none⟩), .pointer (some ⟨pb, 0, none⟩), .bool q] w (EscP w B rb pb S (escF q p (S.data.toList.drop (a + 1)))) := by
  obtain ⟨X, hX⟩ : ∃ X, escF q p (S.data.toList.drop (a + 1)) = X := ⟨_, rfl⟩
  obtain ⟨Q, hQ⟩ : ∃ Q, EscP w B rb pb S (escF q p (S.data.toList.drop (a + 1))) = Q := ⟨_, rfl⟩
  rw [hQ]
  rw [hX] at hQ
  have HQ := Lib.hid hQ
  have q0 : w.cell? ⟨rb, 0, none⟩ = some (.string S) := cell_of hr 0
  have q1 : w.cell? ⟨rb, 1, none⟩ = some (.int .i64 a) := cell_of hr 1
  have f1 := free_of hr 1
  have haI : (a : Int) < (S.size : Int) := by omega
  have ha1 : IntKind.i64.wrap ((a : Int) + 1) = (a : Int) + 1 := IntWalk.i64_in _ (by omega)
  have ha2 : IntKind.i64.wrap ((a : Int) + 2) = (a : Int) + 2 := IntWalk.i64_in _ (by omega)
  obtain ⟨m, hm⟩ : ∃ m : Nat, min (a + 2) S.size = m := ⟨_, rfl⟩
  have hmI : min ((a : Int) + 2) (S.size : Int) = (m : Int) := by omega
  have hma : a + 1 ≤ m := by omega
  have hmS : m ≤ S.size := by omega
  have e1 : (a : Int) + 1 ≤ (m : Int) := by omega
  have e2 : (m : Int) ≤ (S.size : Int) := by omega
  have e3 : (0 : Int) ≤ (a : Int) + 1 := by omega
  have hnx := ext_dt (t := S) (a := a + 1) (b := m) hma hmS
  obtain ⟨NX, hNX⟩ : ∃ NX, S.extract (a + 1) m = NX := ⟨_, rfl⟩
  rw [hNX] at hnx
  have HR := Lib.hid hr
  have HP := Lib.hid hp
  -- where it goes on, and what is put
  have HGO : Hid (∀ (w1 : World) (n : Nat) (ai : Int) (s : ByteArray), ai = ((a + n : Nat) : Int) → Below w.heap.size w w1 → a + n ≤ S.size → n ≤ 2 → s.size ≤ 1 → Rd (w1.setCell ⟨rb, 1, none⟩ (.int .i64 ai)) rb S (a + n) ∧ Rb B rb w (w1.setCell ⟨rb, 1, none⟩ (.int .i64 ai)) ∧ PAt (w1.setCell ⟨rb, 1, none⟩ (.int .i64 ai)) B pb lv p ∧
      Calls Try.prog 50 #[.pointer (some ⟨pb, 0, none⟩), .int .i64 2, .string s] (w1.setCell ⟨rb, 1, none⟩ (.int .i64 ai)) fun e w' => e = .returned (.tuple #[]) ∧ Rs w w' B rb pb S (a + n) (p.put 2 s.data.toList)) := by
    intro w1 n ai s hai hb hn h2 hs1
    subst hai
    have hr1 := hr.under hb
    have hp1 := (hp.under hb).rd hr1 1 (.int .i64 (a + n : Nat))
    have hsz : (w1.setCell ⟨rb, 1, none⟩ (.int .i64 (a + n : Nat))).heap.size = w1.heap.size := by simp
    have hB1 : B ≤ (w1.setCell ⟨rb, 1, none⟩ (.int .i64 (a + n : Nat))).heap.size := by rw [hsz]; exact Nat.le_trans hB hb.size
    have ho : Rb B rb w (w1.setCell ⟨rb, 1, none⟩ (.int .i64 (a + n : Nat))) := Rb.trans (Rb.of_new hb) (Rb.set _ _ _)
    refine ⟨hr1.set _, ho, hp1, (put_any hp1 (by omega) hB1 2 s (by omega)).mono ?_⟩
    rintro e w' ⟨rfl, lv', g1, g2, g3⟩
    exact ⟨rfl, (hr1.set (a + n)).below g2 hrb, hn, Rb.trans ho (Rb.of_below g2 hB1), lv', g1⟩
  by_cases hend : a + 1 = S.size
  · have hN0 : NX = ⟨#[]⟩ := ba_ext (by rw [hnx.1, List.drop_of_length_le (by rw [List.length_take, dl]; omega)])
    have HX : Hid (X = (p.put 2 [92], [])) := by rw [Hid, ← hX, hend, List.drop_of_length_le (by rw [dl]; exact Nat.le_refl _)]; rfl
    have HD : Hid (S.data.toList.drop (a + 1) = []) := List.drop_of_length_le (by rw [dl]; omega)
    subst hN0
    have HCN := Lib.hid (fun s w => Contains_none s w)
    have HG := Lib.hid (fun w1 hb => (HGO.out w1 1 ((a : Int) + 1) ⟨#[92]⟩ (by omega) hb (by omega) (by omega) (by decide)).2.2.2)
    clear hQ hX hp hr hm hnx hend
    cases q
    all_goals
      go_enter Try.func46, Try.ntmps46
      go_wp2_with fail
      go_quiet (fail)
      have hbn := drew_below w nq
      have HBN := Lib.hid hbn
      clear hbn
      go_wp2_with (first
        | (go_at_call 29; refine (HCN.out _ _).mono ?_; rintro e w1 ⟨rfl, h1⟩; obtain rfl := h1.symm; simp only [])
        | (go_at_call 50; refine (HG.out _ HBN.out).mono ?_; rintro e w1 ⟨rfl, h1⟩; have H1 := Lib.hid h1; clear h1; simp only []))
      go_end0
      rw [← HQ.out, HX.out]
      exact ⟨rfl, a + 1, H1.out, HD.out⟩
  · have hlt : a + 1 < S.size := by omega
    have hat := data_get S (a + 1) hlt
    obtain ⟨c, hc⟩ : ∃ c, S[a + 1]'hlt = c := ⟨_, rfl⟩
    rw [hc] at hat
    have hdr := at_drop hat
    have hm2 : m = a + 2 := by omega
    have hN1 : NX.data.toList = [c] := by
      have h1 : S.data.toList.take (a + 2) = S.data.toList.take (a + 1) ++ [c] := by
        rw [List.take_add_one, hat]; rfl
      rw [hnx.1, hm2, h1, List.drop_append_of_le_length (by rw [List.length_take, dl]; omega), List.drop_of_length_le (by rw [List.length_take, dl]; omega)]
      rfl
    have hns : NX.size = 1 := by rw [← dl, hN1]; rfl
    have hnE : NX.toList.isEmpty = false := isE_ne (by rw [hN1]; simp)
    have hn10 : (NX.toList == [10]) = (c == 10) := by rw [Lib.toList_data, hN1]; simp
    obtain ⟨z10, hz10⟩ : ∃ z, (c == 10) = z := ⟨_, rfl⟩
    rw [hz10] at hn10
    have HCO := Lib.hid (fun w => Try.strings_Contains_one ⟨#[36, 34, 92, 96, 10]⟩ c w)
    have hNX1 : NX = ⟨#[c]⟩ := ba_ext hN1
    rw [contains_idx, ← hNX1] at HCO
    obtain ⟨zc, hzc⟩ : ∃ z, (⟨#[36, 34, 92, 96, 10]⟩ : ByteArray).data.toList.contains c = z := ⟨_, rfl⟩
    rw [hzc] at HCO
    have HX : Hid (X = if q && !zc then (p.put 2 [92], c :: S.data.toList.drop (a + 2)) else if z10 = true then (p, S.data.toList.drop (a + 2)) else (p.put 2 [c], S.data.toList.drop (a + 2))) := by
      rw [Hid, ← hX, hdr, escF, ← hzc, ← hz10]
      simp only [beq_iff_eq]
      rfl
    have HD1 : Hid (S.data.toList.drop (a + 1) = c :: S.data.toList.drop (a + 2)) := hdr
    have HG1 := Lib.hid (fun w1 hb => (HGO.out w1 1 ((a : Int) + 1) ⟨#[92]⟩ (by omega) hb (by omega) (by omega) (by decide)).2.2.2)
    have HG2 := Lib.hid (fun w1 hb => (HGO.out w1 2 ((a : Int) + 2) NX (by omega) hb (by omega) (by omega) (by omega)).2.2.2)
    have HG3 := Lib.hid (fun w1 hb => HGO.out w1 2 ((a : Int) + 2) ⟨#[]⟩ (by omega) hb (by omega) (by omega) (by decide))
    rw [hN1] at HG2
    have hle2 : a + 2 ≤ S.size := by omega
    have HPP := Lib.hid hp
    clear hQ hX hp hr hm hnx hend hat hdr hN1 hz10 hNX1 hzc hm2 hlt hc
    cases q <;> cases zc <;> cases z10
    all_goals
      go_enter Try.func46, Try.ntmps46
      go_wp2_with fail
      go_quiet (fail)
      have hbn := drew_below w nq
      have HBN := Lib.hid hbn
      clear hbn
      go_wp2_with (first
        | (go_at_call 29; refine (HCO.out _).mono ?_; rintro e w1 ⟨rfl, h1⟩; obtain rfl := h1.symm; simp only [])
        | (go_at_call 50; first
            | ((with_reducible refine (HG1.out _ HBN.out).mono ?_); rintro e w1 ⟨rfl, h1⟩; have H1 := Lib.hid h1; clear h1; simp only [])
            | ((with_reducible refine (HG2.out _ HBN.out).mono ?_); rintro e w1 ⟨rfl, h1⟩; have H1 := Lib.hid h1; clear h1; simp only [])))
      go_end0
      rw [← HQ.out, HX.out]
      first
        | exact ⟨rfl, a + 1, H1.out, HD1.out⟩
        | exact ⟨rfl, a + 2, H1.out, rfl⟩
        | (obtain ⟨g1, g2, g3, _⟩ := HG3.out _ HBN.out
           exact ⟨rfl, a + 2, ⟨g1, hle2, g2, _, g3⟩, rfl⟩)
end Go.Proofs.Ytafbheplaheohaa

namespace Go.Proofs.Ytafbheplaheohaa
open Go.RowKit
set_option linter.unusedVariables false

/-- What a reading call answers: an error, or where the reader and the parts stand. -/
def ErrP (w : World) (B rb : Nat) (S : ByteArray) (x : Nat) (e : Ending) (w' : World) : Prop := e = .returned (.int .i64 x) ∧ x ≠ 0 ∧ Rb B rb w w' ∧ ∃ a', Rd w' rb S a' ∧ a' ≤ 20000
def GoP (w : World) (B rb pb : Nat) (S : ByteArray) (r : Res (PS × Bz)) (e : Ending) (w' : World) : Prop := match r with
  | .error x => ErrP w B rb S x e w'
  | .ok (p, t) => e = .returned (.int .i64 0) ∧ ∃ a', Rs w w' B rb pb S a' p ∧ S.data.toList.drop a' = t
def singleF (p : PS) (s : Bz) : Res (PS × Bz) := match cutAt 39 s with
  | none => .error 2
  | some (t, r) => .ok (p.mark.put 2 t, r)
theorem PAt.mark {w : World} {B pb : Nat} {lv : Value} {p : PS} (h : PAt w B pb lv p) : PAt (w.setCell ⟨pb, 3, none⟩ (.bool true)) B pb lv p.mark ∧ Below B w (w.setCell ⟨pb, 3, none⟩ (.bool true)) := by
  obtain ⟨bv, L, hb, hl, hby⟩ := h.ex
  exact ⟨⟨⟨bv, L, set_of hb 3 _, hl.keep fun g c hg hc => (heap_other (cells_ne hc hb (by decide)) _ _).trans hc, own_keep hby fun g c hg hc => (heap_other (cells_ne hc hb (by decide)) _ _).trans hc⟩, h.ge⟩, (Below.refl _ _).setCell h.ge _⟩
set_option maxRecDepth 100000 in
set_option maxHeartbeats 4000000 in
theorem single_any {w : World} {B rb pb a : Nat} {lv : Value} {p : PS} {S : ByteArray} (hp : PAt w B pb lv p) (hz : p.sz ≤ 90000) (hB : B ≤ w.heap.size) (hr : Rd w rb S a) (hrb : rb < B) (ha : a < S.size) (hs : S.size ≤ 20000) :
    Calls Try.prog 47 #[.pointer (some ⟨rb, 0, none⟩), .pointer (some ⟨pb, 0, none⟩)] w (GoP w B rb pb S (singleF p (S.data.toList.drop (a + 1)))) := by
  obtain ⟨Q, hQ⟩ : ∃ Q, GoP w B rb pb S (singleF p (S.data.toList.drop (a + 1))) = Q := ⟨_, rfl⟩
  rw [hQ]
  have HQ := Lib.hid hQ
  have q0 : w.cell? ⟨rb, 0, none⟩ = some (.string S) := cell_of hr 0
  have q1 : w.cell? ⟨rb, 1, none⟩ = some (.int .i64 a) := cell_of hr 1
  have haI : (a : Int) < (S.size : Int) := by omega
  have haI1 : (a : Int) + 1 ≤ (S.size : Int) := by omega
  have ha0 : (0 : Int) ≤ (a : Int) + 1 := by omega
  have ha1 : IntKind.i64.wrap ((a : Int) + 1) = (a : Int) + 1 := IntWalk.i64_in _ (by omega)
  have hx := ext_end (t := S) (a := a + 1) (by omega)
  obtain ⟨X, hX⟩ : ∃ X, S.extract (a + 1) S.size = X := ⟨_, rfl⟩
  rw [hX] at hx
  have HC := Lib.hid (fun w => Cut_one 39 X w (by omega))
  unfold CutP at HC
  have hF : singleF p (S.data.toList.drop (a + 1)) = match cutAt 39 X.data.toList with
    | none => .error 2
    | some (t, r) => .ok (p.mark.put 2 t, r) := by rw [hx.1]; rfl
  cases hc : cutAt 39 X.data.toList with
  | none =>
    have hA : cutA 39 X = (X, ⟨#[]⟩, false) := by unfold cutA; rw [hc]
    rw [hA] at HC
    simp only at HC
    have HF : Hid (singleF p (S.data.toList.drop (a + 1)) = .error 2) := by rw [Hid, hF, hc]
    have HRD := Lib.hid hr
    clear hQ hF hc hA hx hp hr
    go_enter Try.func47, Try.ntmps47
    go_wp2_with fail
    go_quiet (exact Calls.quiet_of (HC.out _))
    go_wp2_with fail
    rw [← HQ.out, HF.out]
    exact ⟨rfl, by decide, Rb.of_new (drew_below _ _), a, HRD.out.under (drew_below _ _), by omega⟩
  | some z =>
    obtain ⟨t, r⟩ := z
    have hA : cutA 39 X = (⟨t.toArray⟩, ⟨r.toArray⟩, true) := by unfold cutA; rw [hc]
    rw [hA] at HC
    simp only at HC
    have HF : Hid (singleF p (S.data.toList.drop (a + 1)) = .ok (p.mark.put 2 t, r)) := by rw [Hid, hF, hc]
    have heq := (cutAt_eq hc).1
    have hlen : X.size = t.length + 1 + r.length := by rw [← dl, heq]; simp; omega
    obtain ⟨T, hT⟩ : ∃ T : ByteArray, (⟨t.toArray⟩ : ByteArray) = T := ⟨_, rfl⟩
    have hTd : T.data.toList = t := by rw [← hT]
    obtain ⟨R, hR⟩ : ∃ R : ByteArray, (⟨r.toArray⟩ : ByteArray) = R := ⟨_, rfl⟩
    rw [hT, hR] at HC
    have hTs : T.size = t.length := by rw [← dl, hTd]
    have HDR : Hid (S.data.toList.drop (a + (T.size + 2)) = r) := by
      rw [Hid, show a + (T.size + 2) = (a + 1) + (t.length + 1) by omega, ← List.drop_drop, ← hx.1, heq, ← List.drop_drop, List.drop_left]; rfl
    have hb1 : IntKind.i64.wrap ((T.size : Int) + 2) = (T.size : Int) + 2 := IntWalk.i64_in _ (by omega)
    have hb2 : IntKind.i64.wrap ((a : Int) + ((T.size : Int) + 2)) = (a : Int) + ((T.size : Int) + 2) := IntWalk.i64_in _ (by omega)
    have hend : a + (T.size + 2) ≤ S.size := by omega
    have HRD := Lib.hid hr
    have HPP := Lib.hid hp
    obtain ⟨bv0, L0, hpb, _⟩ := hp.ex
    have f3 := free_of hpb 3
    have q3 : w.cell? ⟨pb, 3, none⟩ = some (.bool p.quotes) := cell_of hpb 3
    have hTb : T.size ≤ 100000 := by omega
    have HPUT : Hid (∀ w1, Below w.heap.size w w1 → Calls Try.prog 50 #[.pointer (some ⟨pb, 0, none⟩), .int .i64 2, .string T] (w1.setCell ⟨pb, 3, none⟩ (.bool true)) fun e w' => e = .returned (.tuple #[]) ∧ Below B w w' ∧ ∃ lv', PAt w' B pb lv' (p.mark.put 2 t)) := fun w1 hb => by
      obtain ⟨g1, g2⟩ := (hp.under hb).mark
      have hsz : (w1.setCell ⟨pb, 3, none⟩ (.bool true)).heap.size = w1.heap.size := by simp
      refine (put_any g1 (by rw [mark_sz]; omega) (by rw [hsz]; exact Nat.le_trans hB hb.size) 2 T hTb).mono ?_
      rintro e w' ⟨rfl, lv', k1, k2, _⟩
      rw [hTd] at k1
      exact ⟨rfl, ((hb.mono hB).trans g2).trans k2, lv', k1⟩
    clear hQ hF hc hA hx hp hr hT hR hTd heq hpb hTs hlen
    go_enter Try.func47, Try.ntmps47
    go_wp2_with fail
    go_quiet (exact Calls.quiet_of (HC.out _))
    have HBN := Lib.hid (drew_below w nq)
    go_wp2_with (go_at_call 50; refine (HPUT.out _ HBN.out).mono ?_; rintro e w1 ⟨rfl, h1, h2⟩; have H2 := Lib.hid h2; have H1 := Lib.hid h1; have hrd := HRD.out.below h1 hrb; have q1' : w1.cell? ⟨rb, 1, none⟩ = some (.int .i64 a) := cell_of hrd 1; have f1' := free_of hrd 1; have HRD1 := Lib.hid hrd; clear h1 h2 hrd; simp only [])
    rw [← HQ.out, HF.out]
    obtain ⟨lv', k1⟩ := H2.out
    have hcast : (a : Int) + ((T.size : Int) + 2) = ((a + (T.size + 2) : Nat) : Int) := by omega
    rw [hcast]
    exact ⟨rfl, a + (T.size + 2), ⟨HRD1.out.set _, hend, Rb.trans (Rb.of_below H1.out hB) (Rb.set _ _ _), lv', k1.rd HRD1.out 1 _⟩, HDR.out⟩
end Go.Proofs.Ytafbheplaheohaa

namespace Go.Proofs.Ytafbheplaheohaa
open Go.RowKit
set_option linter.unusedVariables false

def zeroV : Value := .agg #[.int .i64 0, .string ⟨#[]⟩, .string ⟨#[]⟩, .string ⟨#[]⟩, .slice none 0 0, .bool false]
/-- What a call answers that reads one part. -/
def PartP (w : World) (rb : Nat) (S : ByteArray) (r : Res (Prt × Bz)) (e : Ending) (w' : World) : Prop := match r with
  | .error x => e = .returned (.tuple #[zeroV, .int .i64 x]) ∧ x ≠ 0 ∧ Only (fun k => k = rb) w w' ∧ ∃ a', Rd w' rb S a' ∧ a' ≤ 20000
  | .ok (x, t) => Only (fun k => k = rb) w w' ∧ ∃ (pt : Pt) (a' : Nat), e = .returned (.tuple #[.agg pt.cs.toArray, .int .i64 0]) ∧ pt.is x ∧ Wd w' (fun k => w.heap.size ≤ k) pt.wv x.word ∧ Rd w' rb S a' ∧ a' ≤ S.size ∧ S.data.toList.drop a' = t
def calcF (s : Bz) : Res (Prt × Bz) := match calcN 0 s with
  | none => .error 2
  | some i => .ok (.mk 4 (s.take i) [] [] [] false, s.drop (i + 2))
theorem map_add (x : Option Nat) (k : Nat) : (x.map (· + 1)).map (· + k) = x.map (· + (k + 1)) := by
  cases x with
  | none => rfl
  | some a => simp; omega
theorem box_facts {w : World} {a : Nat} {v0 v1 v2 v3 v4 v5 : Value} {ty : TypeId} (hb : w.heap[a]? = some (.cells [v0, v1, v2, v3, v4, v5].toArray ty (0, 0))) :
    w.cell? ⟨a, 0, none⟩ = some v0 ∧ w.cell? ⟨a, 1, none⟩ = some v1 ∧ w.cell? ⟨a, 2, none⟩ = some v2 ∧ w.cell? ⟨a, 3, none⟩ = some v3 ∧ w.cell? ⟨a, 4, none⟩ = some v4 ∧ w.cell? ⟨a, 5, none⟩ = some v5 ∧
    w.frozen? ⟨a, 0, none⟩ = false ∧ w.frozen? ⟨a, 1, none⟩ = false ∧ w.frozen? ⟨a, 2, none⟩ = false ∧ w.frozen? ⟨a, 3, none⟩ = false ∧ w.frozen? ⟨a, 4, none⟩ = false ∧ w.frozen? ⟨a, 5, none⟩ = false :=
  ⟨cell_of hb 0, cell_of hb 1, cell_of hb 2, cell_of hb 3, cell_of hb 4, cell_of hb 5, free_of hb 0, free_of hb 1, free_of hb 2, free_of hb 3, free_of hb 4, free_of hb 5⟩
def zeroL : List Value := [.int .i64 0, .string ⟨#[]⟩, .string ⟨#[]⟩, .string ⟨#[]⟩, .slice none 0 0, .bool false]
theorem put6_only {w w1 : World} {rb nb : Nat} (h : Only (fun k => k = rb) w w1) (hn : w.heap.size ≤ nb) (pt : Pt) : Only (fun k => k = rb) w (put6 w1 nb 0 pt) :=
  (((((h.set (.inr hn) _ _).set (.inr hn) _ _).set (.inr hn) _ _).set (.inr hn) _ _).set (.inr hn) _ _).set (.inr hn) _ _
theorem Rd.put6 {w : World} {rb nb a : Nat} {S : ByteArray} (h : Rd w rb S a) (hne : rb ≠ nb) (pt : Pt) : Rd (put6 w nb 0 pt) rb S a := (put6_other hne _ _).trans h
def pt0 : Pt := ⟨0, ⟨#[]⟩, ⟨#[]⟩, ⟨#[]⟩, .slice none 0 0, false⟩
set_option maxRecDepth 100000 in
set_option maxHeartbeats 8000000 in
theorem calc_any {w : World} {rb a : Nat} {S : ByteArray} (hr : Rd w rb S a) (ha : a ≤ S.size) (hs : S.size ≤ 20000) :
    Calls Try.prog 60 #[.pointer (some ⟨rb, 0, none⟩)] w (PartP w rb S (calcF (S.data.toList.drop a))) := by
  obtain ⟨Q, hQ⟩ : ∃ Q, PartP w rb S (calcF (S.data.toList.drop a)) = Q := ⟨_, rfl⟩
  rw [hQ]
  have HQ := Lib.hid hQ
  have hx := ext_end (t := S) (a := a) ha
  obtain ⟨X, hX⟩ : ∃ X, S.extract a S.size = X := ⟨_, rfl⟩
  rw [hX] at hx
  have HRD := Lib.hid hr
  have HREST := Lib.hid (fun w1 (hb : Below w.heap.size w w1) => rest_any rb S a w1 (hr.under hb) ha hs)
  rw [hX] at HREST
  have hXs : X.size ≤ 20000 := by omega
  have hXa : a + X.size ≤ S.size := by omega
  have HXD : Hid (X.data.toList = S.data.toList.drop a) := hx.1
  have hrl := blk_lt hr
  have HHP := Lib.hid (fun s p w => Try.strings_HasPrefix s p w)
  clear hQ hx hr hX
  go_enter Try.func60, Try.ntmps60
  go_wp2_with fail
  refine wp_scope_straight ?_
  go_wp2_with (go_at_call 21; refine (HREST.out _ ((Below.refl _ _).alloc (Nat.le_refl _) _)).mono ?_; rintro e w1 ⟨rfl, h1⟩; have hbox := (h1.block w.heap.size (by simp)).trans (heap_alloc_new w _); have H1 : Hid (Below w.heap.size w w1) := ((Below.refl _ w).alloc (Nat.le_refl _) _).trans (h1.mono (by simp)); have HBOX := Lib.hid hbox; clear h1 hbox; simp only [])
  refine wp_label ?_
  go_wp2_with fail
  have hrd1 := HRD.out.under H1.out
  have q1 : w1.cell? ⟨rb, 1, none⟩ = some (.int .i64 a) := cell_of hrd1 1
  have f1 := free_of hrd1 1
  obtain ⟨nb, hnb⟩ : ∃ nb, w.heap.size = nb := ⟨_, rfl⟩
  have hne : rb ≠ nb := by omega
  have hne' : nb ≠ rb := fun e => hne e.symm
  rw [hnb] at HBOX ⊢
  obtain ⟨b0, b1, b2, b3, b4, b5, u0, u1, u2, u3, u4, u5⟩ := box_facts HBOX.out
  have HRD1 := Lib.hid hrd1
  have HNB := Lib.hid hnb
  have HCF : Hid ((∀ x, calcN 0 X.data.toList = none → x = calcF (S.data.toList.drop a) → x = .error 2) ∧ ∀ i, calcN 0 X.data.toList = some i → calcF (S.data.toList.drop a) = .ok (.mk 4 (X.data.toList.take i) [] [] [] false, X.data.toList.drop (i + 2))) := by
    refine ⟨fun x h1 h2 => ?_, fun i h1 => ?_⟩
    · rw [h2, ← HXD.out, calcF, h1]
    · rw [← HXD.out, calcF, h1]
  have HOUT : Hid (∀ (w2 w3 : World) e, calcN 0 X.data.toList = none → Only (fun k => k = rb) w w3 → Rd w3 rb S a → e = .returned (.tuple #[zeroV, .int .i64 2]) → Q e w3) := by
    intro w2 w3 e h1 h2 h3 h4
    rw [← HQ.out, HCF.out.1 _ h1 rfl, h4]
    exact ⟨rfl, by decide, h2, a, h3, by omega⟩
  clear hrd1 hnb
  go_loopw [5, 11] (fun op ct wx => ∃ (k o : Nat), op = .int .i64 o ∧ ct = .int .i64 k ∧ k ≤ X.size ∧ o ≤ k ∧ wx = w1 ∧ Hid (calcN 0 X.data.toList = (calcN o (X.data.toList.drop k)).map (· + k))) (fun _ ct _ => X.size - (intOf ct).toNat)
  case atStart => exact ⟨0, 0, rfl, rfl, Nat.zero_le _, Nat.le_refl _, rfl, by rw [Hid, List.drop_zero]; cases calcN 0 X.data.toList <;> rfl⟩
  case round =>
    obtain ⟨k, o, rfl, rfl, hk, ho, rfl, HK⟩ := hrel
    have hk0 : (0 : Int) ≤ (k : Int) := by omega
    by_cases hlt : k < X.size
    · have hltI : (k : Int) < (X.size : Int) := by omega
      have hltd : decide ((k : Int) < (X.size : Int)) = true := decide_eq_true hltI
      have hat := data_get X k hlt
      obtain ⟨c, hc⟩ : ∃ c, X[k]'hlt = c := ⟨_, rfl⟩
      rw [hc] at hat
      have hdr := at_drop hat
      have HDR := Lib.hid hdr
      have hb64 : IntKind.i64.wrap ((k : Int) + 1) = (k : Int) + 1 := IntWalk.i64_in _ (by omega)
      have h40 := byte_eq c 40
      rw [show ((40 : UInt8).toNat : Int) = 40 from rfl] at h40
      have h41 := byte_eq c 41
      rw [show ((41 : UInt8).toNat : Int) = 41 from rfl] at h41
      have HK2 : Hid (calcN 0 X.data.toList = (calcN o (c :: X.data.toList.drop (k + 1))).map (· + k)) := by rw [Hid, HK.out, hdr]
      clear hat hdr
      by_cases e40 : c = 40
      · have hz : ((c.toNat : Int) == 40) = true := by rw [h40, e40]; rfl
        have HN : Hid (calcN 0 X.data.toList = (calcN (o + 1) (X.data.toList.drop (k + 1))).map (· + (k + 1))) := by rw [Hid, HK2.out, calcN_cons, if_pos e40, map_add]
        have ho1 : IntKind.i64.wrap ((o : Int) + 1) = (o : Int) + 1 := IntWalk.i64_in _ (by omega)
        clear h40 h41 e40
        go_wp2_with fail
        go_roundw
        case measure => simp [intOf]; omega
        case rel => exact ⟨k + 1, o + 1, by go_num, by go_num, by omega, by omega, trivial, HN.out⟩
      · have hz : ((c.toNat : Int) == 40) = false := by rw [h40]; simpa using e40
        by_cases e41 : c = 41
        · have hz1 : ((c.toNat : Int) == 41) = true := by rw [h41, e41]; rfl
          cases o with
          | succ o =>
            have HN : Hid (calcN 0 X.data.toList = (calcN o (X.data.toList.drop (k + 1))).map (· + (k + 1))) := by rw [Hid, HK2.out, calcN_cons, if_neg e40, if_pos e41]; exact map_add _ _
            have ho1 : IntKind.i64.wrap (((o + 1 : Nat) : Int) - 1) = (o : Int) := by rw [show ((o + 1 : Nat) : Int) - 1 = (o : Int) by omega]; exact IntWalk.i64_in _ (by omega)
            have ho2 : decide ((0 : Int) ≤ (o : Int)) = true := decide_eq_true (by omega)
            clear h40 h41 e40 e41
            go_wp2_with fail
            go_roundw
            case measure => simp [intOf]; omega
            case rel => exact ⟨k + 1, o, by go_num, by go_num, by omega, by omega, trivial, HN.out⟩
          | zero =>
            have hY := ext_end (t := X) (a := k) (by omega)
            obtain ⟨Y, hYY⟩ : ∃ Y, X.extract k X.size = Y := ⟨_, rfl⟩
            rw [hYY] at hY
            have HP := Lib.hid (fun w => HHP.out Y ⟨#[41, 41]⟩ w)
            obtain ⟨z, hzz⟩ : ∃ z, Lib.hasPrefix Y.data.toList [41, 41] = z := ⟨_, rfl⟩
            have HP2 : Hid (∀ w, Calls Try.prog 31 #[.string Y, .string ⟨#[41, 41]⟩] w fun e w' => e = .returned (.bool z) ∧ w' = w) := by rw [Hid, ← hzz]; exact HP.out
            have HZ : Hid (z = decide ((X.data.toList.drop (k + 1)).head? = some 41)) := by
              rw [Hid, ← hzz, hY.1, HDR.out, e41]
              cases X.data.toList.drop (k + 1) with
              | nil => rfl
              | cons d r =>
                simp only [Lib.hasPrefix, List.isPrefixOf, List.head?_cons, Option.some.injEq]
                by_cases h : d = 41
                · subst h; rfl
                · have h' : (41 : UInt8) ≠ d := fun e => h e.symm
                  simp [h, h']
            have hkI : (k : Int) ≤ (X.size : Int) := by omega
            have hwn : IntKind.i64.wrap ((0 : Int) - 1) = -1 := IntWalk.i64_in _ (by omega)
            cases z with
            | false =>
              have HN : Hid (calcN 0 X.data.toList = none) := by
                rw [Hid, HK2.out, calcN_cons, if_neg e40, if_pos e41]
                simp only
                rw [if_neg (by simpa using HZ.out.symm)]; rfl
              clear h40 h41 e40 e41 hzz HP
              go_wp2_with (go_at_call 31; refine (HP2.out _).mono ?_; rintro e w5 ⟨rfl, h5⟩; obtain rfl := h5.symm; simp only [])
              try simp +zetaDelta only [Exit.noGoto_ret]
              refine bodyPost_ret (v := .tuple #[zeroV, .int .i64 2]) ?_ rfl ?_
              · simp [results, Try.results60, go_sem, b0, b1, b2, b3, b4, b5]
                rfl
              · exact HOUT.out wr (put6 wr nb 0 pt0) _ HN.out (put6_only (Only.of_below H1.out) (by rw [HNB.out]; exact Nat.le_refl _) pt0) (HRD1.out.put6 hne pt0) rfl
            | true =>
              have HN : Hid (calcN 0 X.data.toList = some k) := by
                rw [Hid, HK2.out, calcN_cons, if_neg e40, if_pos e41]
                simp only
                rw [if_pos (by simpa using HZ.out.symm)]; simp
              clear h40 h41 e40 e41 hzz HP
              have hk2 : k + 2 ≤ X.size := by
                have h1 : (X.data.toList.drop (k + 1)).head? = some 41 := by simpa using HZ.out.symm
                by_cases h2 : k + 2 ≤ X.size
                · exact h2
                · rw [List.drop_of_length_le (by rw [dl]; omega)] at h1; cases h1
              have hw1 : IntKind.i64.wrap ((k : Int) + 2) = (k : Int) + 2 := IntWalk.i64_in _ (by omega)
              have hw2 : IntKind.i64.wrap ((a : Int) + ((k : Int) + 2)) = (a : Int) + ((k : Int) + 2) := IntWalk.i64_in _ (by omega)
              go_wp2_with (go_at_call 31; refine (HP2.out _).mono ?_; rintro e w5 ⟨rfl, h5⟩; obtain rfl := h5.symm; simp only [])
              try simp +zetaDelta only [Exit.noGoto_ret]
              have hcast : (a : Int) + ((k : Int) + 2) = ((a + (k + 2) : Nat) : Int) := by omega
              have hE := ext_dt (t := X) (a := 0) (b := k) (Nat.zero_le _) (by omega)
              rw [List.drop_zero] at hE
              refine bodyPost_ret (v := .tuple #[.agg #[.int .i64 4, .string (X.extract 0 k), .string ⟨#[]⟩, .string ⟨#[]⟩, .slice none 0 0, .bool false], .int .i64 0]) ?_ rfl ?_
              · simp [results, Try.results60, go_sem, b0, b1, b2, b3, b4, b5]
              · rw [← HQ.out, HCF.out.2 k HN.out, hcast]
                refine ⟨put6_only ((Only.of_below (S := fun k => k = rb) H1.out).set (g := rb) (.inl rfl) 1 _) (by rw [HNB.out]; exact Nat.le_refl _) ⟨4, X.extract 0 k, ⟨#[]⟩, ⟨#[]⟩, .slice none 0 0, false⟩, ⟨4, X.extract 0 k, ⟨#[]⟩, ⟨#[]⟩, .slice none 0 0, false⟩, a + (k + 2), rfl, ⟨rfl, hE.1, rfl, rfl, rfl⟩, .nil 0, (HRD1.out.set (a + (k + 2))).put6 hne ⟨4, X.extract 0 k, ⟨#[]⟩, ⟨#[]⟩, .slice none 0 0, false⟩, by omega, ?_⟩
                rw [HXD.out, List.drop_drop]
        · have hz1 : ((c.toNat : Int) == 41) = false := by rw [h41]; simpa using e41
          have HN : Hid (calcN 0 X.data.toList = (calcN o (X.data.toList.drop (k + 1))).map (· + (k + 1))) := by rw [Hid, HK2.out, calcN_cons, if_neg e40, if_neg e41, map_add]
          clear h40 h41 e40 e41
          go_wp2_with fail
          go_roundw
          case measure => simp [intOf]; omega
          case rel => exact ⟨k + 1, o, by go_num, rfl, by omega, by omega, trivial, HN.out⟩
    · have hltd : decide ((k : Int) < (X.size : Int)) = false := decide_eq_false (by omega)
      have HN : Hid (calcN 0 X.data.toList = none) := by
        rw [Hid, HK.out, List.drop_of_length_le (by rw [dl]; omega)]; rfl
      go_wp2_with fail
      try simp +zetaDelta only [Exit.noGoto_ret]
      refine bodyPost_ret (v := .tuple #[zeroV, .int .i64 2]) ?_ rfl ?_
      · simp [results, Try.results60, go_sem, b0, b1, b2, b3, b4, b5]
        rfl
      · exact HOUT.out wr (put6 wr nb 0 pt0) _ HN.out (put6_only (Only.of_below H1.out) (by rw [HNB.out]; exact Nat.le_refl _) pt0) (HRD1.out.put6 hne pt0) rfl
end Go.Proofs.Ytafbheplaheohaa

namespace Go.Proofs.Ytafbheplaheohaa
open Go.RowKit
set_option linter.unusedVariables false

def subF (s : Bz) : Res (Prt × Bz) := match subN 0 0 s with
  | none => .error 2
  | some i => .ok (.mk 5 (s.take i) [] [] [] false, s.drop (i + 1))
theorem subN_skip : ∀ (n o : Nat) (l : Bz), subN o n l = if n ≤ l.length then (subN o 0 (l.drop n)).map (· + n) else none
  | 0, o, l => by rw [if_pos (Nat.zero_le _), List.drop_zero]; cases subN o 0 l <;> rfl
  | n + 1, o, [] => by rw [if_neg (by simp)]; rfl
  | n + 1, o, c :: l => by
    show (subN o n l).map (· + 1) = _
    rw [subN_skip n o l]
    by_cases h : n ≤ l.length
    · rw [if_pos h, if_pos (by simpa using h), List.drop_succ_cons]
      cases subN o 0 (l.drop n) with
      | none => rfl
      | some a => simp; omega
    · rw [if_neg h, if_neg (by simpa using h)]; rfl
theorem quotT_le : ∀ (q : UInt8) (b : Bool) (l : Bz), quotT q b l ≤ l.length + 1
  | _, b, [] => by cases b <;> exact Nat.le_refl _
  | q, true, c :: l => by
    have := quotT_le q false l
    show quotT q false l + 1 ≤ _
    simp; exact this
  | q, false, c :: l => by
    have h1 := quotT_le q false l
    have h2 := quotT_le q true l
    rw [quotT_false]
    split
    · simp
    · split <;> simp <;> assumption
/-- Where a script goes on. -/
def SubAt (X : ByteArray) (o k : Nat) : Prop := (k ≤ X.size → subN 0 0 X.data.toList = (subN o 0 (X.data.toList.drop k)).map (· + k)) ∧ (X.size < k → subN 0 0 X.data.toList = none)
theorem sub_skip {X : ByteArray} {o k n : Nat} (hk : k < X.size) (h : subN 0 0 X.data.toList = ((subN o n (X.data.toList.drop (k + 1))).map (· + 1)).map (· + k)) : SubAt X o (k + 1 + n) := by
  rw [subN_skip n o (X.data.toList.drop (k + 1))] at h
  have hl : (X.data.toList.drop (k + 1)).length = X.size - (k + 1) := by rw [List.length_drop, dl]
  refine ⟨fun h1 => ?_, fun h1 => ?_⟩
  · rw [if_pos (by omega)] at h
    rw [h, List.drop_drop]
    cases subN o 0 (X.data.toList.drop (k + 1 + n)) with
    | none => rfl
    | some a => simp; omega
  · rw [if_neg (by omega)] at h
    rw [h]; rfl
set_option maxRecDepth 100000 in
set_option maxHeartbeats 8000000 in
theorem sub_any {w : World} {rb a : Nat} {S : ByteArray} (hr : Rd w rb S a) (ha : a ≤ S.size) (hs : S.size ≤ 20000) :
    Calls Try.prog 61 #[.pointer (some ⟨rb, 0, none⟩)] w (PartP w rb S (subF (S.data.toList.drop a))) := by
  obtain ⟨Q, hQ⟩ : ∃ Q, PartP w rb S (subF (S.data.toList.drop a)) = Q := ⟨_, rfl⟩
  rw [hQ]
  have HQ := Lib.hid hQ
  have hx := ext_end (t := S) (a := a) ha
  obtain ⟨X, hX⟩ : ∃ X, S.extract a S.size = X := ⟨_, rfl⟩
  rw [hX] at hx
  have HRD := Lib.hid hr
  have HREST := Lib.hid (fun w1 (hb : Below w.heap.size w w1) => rest_any rb S a w1 (hr.under hb) ha hs)
  rw [hX] at HREST
  have hXs : X.size ≤ 20000 := by omega
  have hXa : a + X.size ≤ S.size := by omega
  have HXD : Hid (X.data.toList = S.data.toList.drop a) := hx.1
  have hrl := blk_lt hr
  have HHP := Lib.hid (fun s p w => Try.strings_HasPrefix s p w)
  clear hQ hx hr hX
  go_enter Try.func61, Try.ntmps61
  go_wp2_with (go_at_call 21; refine (HREST.out _ ((Below.refl _ _).alloc (Nat.le_refl _) _)).mono ?_; rintro e w1 ⟨rfl, h1⟩; have hbox := (h1.block w.heap.size (by simp)).trans (heap_alloc_new w _); have H1 : Hid (Below w.heap.size w w1) := ((Below.refl _ w).alloc (Nat.le_refl _) _).trans (h1.mono (by simp)); have HBOX := Lib.hid hbox; clear h1 hbox; simp only [])
  have hrd1 := HRD.out.under H1.out
  have q1 : w1.cell? ⟨rb, 1, none⟩ = some (.int .i64 a) := cell_of hrd1 1
  have f1 := free_of hrd1 1
  obtain ⟨nb, hnb⟩ : ∃ nb, w.heap.size = nb := ⟨_, rfl⟩
  have hne : rb ≠ nb := by omega
  have hne' : nb ≠ rb := fun e => hne e.symm
  rw [hnb] at HBOX ⊢
  obtain ⟨b0, b1, b2, b3, b4, b5, u0, u1, u2, u3, u4, u5⟩ := box_facts HBOX.out
  have HRD1 := Lib.hid hrd1
  have HNB := Lib.hid hnb
  have HCF : Hid ((∀ x, subN 0 0 X.data.toList = none → x = subF (S.data.toList.drop a) → x = .error 2) ∧ ∀ i, subN 0 0 X.data.toList = some i → subF (S.data.toList.drop a) = .ok (.mk 5 (X.data.toList.take i) [] [] [] false, X.data.toList.drop (i + 1))) := by
    refine ⟨fun x h1 h2 => ?_, fun i h1 => ?_⟩
    · rw [h2, ← HXD.out, subF, h1]
    · rw [← HXD.out, subF, h1]
  have HOUT : Hid (∀ (w2 w3 : World) e, subN 0 0 X.data.toList = none → Only (fun k => k = rb) w w3 → Rd w3 rb S a → e = .returned (.tuple #[zeroV, .int .i64 2]) → Q e w3) := by
    intro w2 w3 e h1 h2 h3 h4
    rw [← HQ.out, HCF.out.1 _ h1 rfl, h4]
    exact ⟨rfl, by decide, h2, a, h3, by omega⟩
  clear hrd1 hnb
  clear b0 b1 b2 b3 b4 b5 u0 u1 u2 u3 u4 u5 q1 f1
  have hn1 : nb < w1.heap.size := blk_lt (cs := [.int .i64 0, .string ⟨#[]⟩, .string ⟨#[]⟩, .string ⟨#[]⟩, .slice none 0 0, .bool false]) HBOX.out
  go_loopw [5, 6] (fun op ct wx => ∃ (k o : Nat), op = .int .i64 o ∧ ct = .int .i64 k ∧ k ≤ X.size + 1 ∧ o ≤ k ∧ Below w1.heap.size w1 wx ∧ Hid (SubAt X o k)) (fun _ ct _ => X.size + 2 - (intOf ct).toNat)
  case atStart => exact ⟨0, 0, rfl, rfl, Nat.zero_le _, Nat.le_refl _, Below.refl _ _, fun _ => by rw [List.drop_zero]; cases subN 0 0 X.data.toList <;> rfl, fun h => by omega⟩
  case round =>
    obtain ⟨k, o, rfl, rfl, hk, ho, hbel, HK⟩ := hrel
    have hk0 : (0 : Int) ≤ (k : Int) := by omega
    have HBE := Lib.hid hbel
    have HBX := (hbel.block nb hn1).trans HBOX.out
    obtain ⟨b0, b1, b2, b3, b4, b5, u0, u1, u2, u3, u4, u5⟩ := box_facts HBX
    have hrd1 := HRD1.out.under hbel
    have q1 : wr.cell? ⟨rb, 1, none⟩ = some (.int .i64 a) := cell_of hrd1 1
    have f1 := free_of hrd1 1
    have HRDX := Lib.hid hrd1
    have HOX : Hid (Only (fun k => k = rb) w wr) := Only.of_below (H1.out.trans (hbel.mono H1.out.size))
    clear hbel HBX hrd1
    by_cases hlt : k < X.size
    · have hltI : (k : Int) < (X.size : Int) := by omega
      have hltd : decide ((k : Int) < (X.size : Int)) = true := decide_eq_true hltI
      have hat := data_get X k hlt
      obtain ⟨c, hc⟩ : ∃ c, X[k]'hlt = c := ⟨_, rfl⟩
      rw [hc] at hat
      have hdr := at_drop hat
      have hb64 : IntKind.i64.wrap ((k : Int) + 1) = (k : Int) + 1 := IntWalk.i64_in _ (by omega)
      have h40 := byte_eq c 40
      rw [show ((40 : UInt8).toNat : Int) = 40 from rfl] at h40
      have h41 := byte_eq c 41
      rw [show ((41 : UInt8).toNat : Int) = 41 from rfl] at h41
      have h92 := byte_eq c 92
      rw [show ((92 : UInt8).toNat : Int) = 92 from rfl] at h92
      have h39 := byte_eq c 39
      rw [show ((39 : UInt8).toNat : Int) = 39 from rfl] at h39
      have h34 := byte_eq c 34
      rw [show ((34 : UInt8).toNat : Int) = 34 from rfl] at h34
      have HK2 : Hid (subN 0 0 X.data.toList = (subN o 0 (c :: X.data.toList.drop (k + 1))).map (· + k)) := by rw [Hid, HK.out.1 (by omega), hdr]
      have one : ∀ o', subN 0 0 X.data.toList = ((subN o' 0 (X.data.toList.drop (k + 1))).map (· + 1)).map (· + k) → SubAt X o' (k + 1) := fun o' h => by
        have := sub_skip (n := 0) hlt h
        exact this
      have ONE := Lib.hid one
      have HDR := Lib.hid hdr
      clear hat hdr one
      by_cases e40 : c = 40
      · have hz : ((c.toNat : Int) == 40) = true := by rw [h40, e40]; rfl
        have HN : Hid (SubAt X (o + 1) (k + 1)) := ONE.out _ (by rw [HK2.out, subN_cons, if_pos e40])
        have ho1 : IntKind.i64.wrap ((o : Int) + 1) = (o : Int) + 1 := IntWalk.i64_in _ (by omega)
        clear h40 h41 h92 h39 h34 e40
        go_wp2_with fail
        go_roundw
        case measure => simp [intOf]; omega
        case rel => exact ⟨k + 1, o + 1, by go_num, by go_num, by omega, by omega, HBE.out, HN.out⟩
      have hz : ((c.toNat : Int) == 40) = false := by rw [h40]; simpa using e40
      by_cases e41 : c = 41
      · have hz1 : ((c.toNat : Int) == 41) = true := by rw [h41, e41]; rfl
        cases o with
        | succ o =>
          have HN : Hid (SubAt X o (k + 1)) := ONE.out _ (by rw [HK2.out, subN_cons, if_neg e40, if_pos e41])
          have ho1 : IntKind.i64.wrap (((o + 1 : Nat) : Int) - 1) = (o : Int) := by rw [show ((o + 1 : Nat) : Int) - 1 = (o : Int) by omega]; exact IntWalk.i64_in _ (by omega)
          have hoz : (((o + 1 : Nat) : Int) == 0) = false := by simp; omega
          clear h40 h41 h92 h39 h34 e40 e41
          go_wp2_with fail
          go_roundw
          case measure => simp [intOf]; omega
          case rel => exact ⟨k + 1, o, by go_num, by go_num, by omega, by omega, HBE.out, HN.out⟩
        | zero =>
          have HN : Hid (subN 0 0 X.data.toList = some k) := by rw [Hid, HK2.out, subN_cons, if_neg e40, if_pos e41]; simp
          have hw2 : IntKind.i64.wrap ((a : Int) + ((k : Int) + 1)) = (a : Int) + ((k : Int) + 1) := IntWalk.i64_in _ (by omega)
          have hkI : (k : Int) ≤ (X.size : Int) := by omega
          clear h40 h41 h92 h39 h34 e40 e41
          go_wp2_with fail
          have hcast : (a : Int) + ((k : Int) + 1) = ((a + (k + 1) : Nat) : Int) := by omega
          have hE := ext_dt (t := X) (a := 0) (b := k) (Nat.zero_le _) (by omega)
          rw [List.drop_zero] at hE
          refine bodyPost_ret (v := .tuple #[.agg #[.int .i64 5, .string (X.extract 0 k), .string ⟨#[]⟩, .string ⟨#[]⟩, .slice none 0 0, .bool false], .int .i64 0]) ?_ rfl ?_
          · simp [results, Try.results61, go_sem, b0, b1, b2, b3, b4, b5]
          · rw [← HQ.out, HCF.out.2 k HN.out, hcast]
            refine ⟨put6_only (HOX.out.set (g := rb) (.inl rfl) 1 _) (by rw [HNB.out]; exact Nat.le_refl _) ⟨5, X.extract 0 k, ⟨#[]⟩, ⟨#[]⟩, .slice none 0 0, false⟩, ⟨5, X.extract 0 k, ⟨#[]⟩, ⟨#[]⟩, .slice none 0 0, false⟩, a + (k + 1), rfl, ⟨rfl, hE.1, rfl, rfl, rfl⟩, .nil 0, (HRDX.out.set (a + (k + 1))).put6 hne ⟨5, X.extract 0 k, ⟨#[]⟩, ⟨#[]⟩, .slice none 0 0, false⟩, by omega, ?_⟩
            rw [HXD.out, List.drop_drop]
      have hz1 : ((c.toNat : Int) == 41) = false := by rw [h41]; simpa using e41
      by_cases e92 : c = 92
      · have hz2 : ((c.toNat : Int) == 92) = true := by rw [h92, e92]; rfl
        have HN : Hid (SubAt X o (k + 2)) := sub_skip (n := 1) hlt (by rw [HK2.out, subN_cons, if_neg e40, if_neg e41, if_pos e92])
        have hb65 : IntKind.i64.wrap ((k : Int) + 1 + 1) = (k : Int) + 1 + 1 := IntWalk.i64_in _ (by omega)
        clear h40 h41 h92 h39 h34 e40 e41 e92
        go_wp2_with fail
        go_roundw
        case measure => simp [intOf]; omega
        case rel => exact ⟨k + 2, o, rfl, by go_num, by omega, by omega, HBE.out, HN.out⟩
      have hz2 : ((c.toNat : Int) == 92) = false := by rw [h92]; simpa using e92
      by_cases e39 : c = 39 ∨ c = 34
      · obtain ⟨n, hn⟩ : ∃ n, quotT c false (X.data.toList.drop (k + 1)) = n := ⟨_, rfl⟩
        have hnl := quotT_le c false (X.data.toList.drop (k + 1))
        rw [hn, List.length_drop, dl] at hnl
        have HN : Hid (SubAt X o (k + 1 + n)) := sub_skip (n := n) hlt (by rw [HK2.out, subN_cons, if_neg e40, if_neg e41, if_neg e92, if_pos e39, hn])
        have hY := ext_end (t := X) (a := k) (by omega)
        obtain ⟨Y, hYY⟩ : ∃ Y, X.extract k X.size = Y := ⟨_, rfl⟩
        rw [hYY] at hY
        have hY0 : 0 < Y.size := by omega
        have hYc : Y[0]'hY0 = c := by
          have h1 := data_get Y 0 hY0
          rw [hY.1, HDR.out] at h1
          injection h1 with h1
          exact h1.symm
        have hYd : Y.data.toList.drop 1 = X.data.toList.drop (k + 1) := by rw [hY.1, List.drop_drop]
        have HQT := Lib.hid (fun w => quotation_any Y (by omega) hY0 c hYc w)
        rw [hYd, hn] at HQT
        have hb65 : IntKind.i64.wrap ((k : Int) + (n : Int)) = (k : Int) + (n : Int) := IntWalk.i64_in _ (by omega)
        have hb66 : IntKind.i64.wrap ((k : Int) + (n : Int) + 1) = (k : Int) + (n : Int) + 1 := IntWalk.i64_in _ (by omega)
        have hb67 : IntKind.i64.wrap ((n : Int) + 1 - 1) = (n : Int) := by rw [show (n : Int) + 1 - 1 = (n : Int) by omega]; exact IntWalk.i64_in _ (by omega)
        have hkI : (k : Int) ≤ (X.size : Int) := by omega
        obtain ⟨z9, hz9⟩ : ∃ z, (c == 39) = z := ⟨_, rfl⟩
        obtain ⟨z4, hz4⟩ : ∃ z, (c == 34) = z := ⟨_, rfl⟩
        rw [hz9] at h39
        rw [hz4] at h34
        have hzz : z9 = true ∨ z4 = true := by rw [← hz9, ← hz4]; simpa using e39
        have hn7 : k + n ≤ X.size := by omega
        clear h40 h41 h92 e40 e41 e92 e39 hn hz9 hz4 hnl
        cases z9 <;> cases z4 <;> simp at hzz
        all_goals
          go_wp2_with (go_at_call 77; refine (HQT.out _).mono ?_; rintro e w5 ⟨rfl, h5⟩; have H5 := Lib.hid h5; clear h5; simp only [])
          go_roundw
          case measure => simp [intOf]; omega
          case rel => exact ⟨k + 1 + n, o, rfl, by go_num, by omega, by omega, HBE.out.trans (H5.out.mono HBE.out.size), HN.out⟩
      have hz3 : ((c.toNat : Int) == 39) = false := by rw [h39]; simpa using fun e => e39 (.inl e)
      have hz4 : ((c.toNat : Int) == 34) = false := by rw [h34]; simpa using fun e => e39 (.inr e)
      have HN : Hid (SubAt X o (k + 1)) := ONE.out _ (by rw [HK2.out, subN_cons, if_neg e40, if_neg e41, if_neg e92, if_neg e39])
      clear h40 h41 h92 h39 h34 e40 e41 e92 e39
      go_wp2_with fail
      go_roundw
      case measure => simp [intOf]; omega
      case rel => exact ⟨k + 1, o, rfl, by go_num, by omega, by omega, HBE.out, HN.out⟩
    · have hltd : decide ((k : Int) < (X.size : Int)) = false := decide_eq_false (by omega)
      have HN : Hid (subN 0 0 X.data.toList = none) := by
        by_cases hkx : k = X.size
        · rw [Hid, HK.out.1 (by omega), List.drop_of_length_le (by rw [dl]; omega)]; rfl
        · exact HK.out.2 (by omega)
      go_wp2_with fail
      refine bodyPost_ret (v := .tuple #[zeroV, .int .i64 2]) ?_ rfl ?_
      · simp [results, Try.results61, go_sem, b0, b1, b2, b3, b4, b5]
        rfl
      · exact HOUT.out wr (put6 wr nb 0 pt0) _ HN.out (put6_only HOX.out (by rw [HNB.out]; exact Nat.le_refl _) pt0) (HRDX.out.put6 hne pt0) rfl
end Go.Proofs.Ytafbheplaheohaa
