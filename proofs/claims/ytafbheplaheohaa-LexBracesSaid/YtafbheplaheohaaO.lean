import Derived.Test.YtafbheplaheohaaN
namespace Go.Proofs.Ytafbheplaheohaa
open Go.RowKit
set_option linter.unusedVariables false

/-- What a reading call answers: an error, or where the reader and the parts stand. -/
def ErrP (w : World) (B rb : Nat) (S : ByteArray) (x : Nat) (e : Ending) (w' : World) : Prop := e = .returned (.int .i64 x) ∧ x ≠ 0 ∧ Rb B rb w w' ∧ ∃ a', Rd w' rb S a' ∧ a' ≤ 20000
def GoP (w : World) (B rb pb : Nat) (S : ByteArray) (r : Res (PS × Bz)) (e : Ending) (w' : World) : Prop := match r with
  | .error x => ErrP w B rb S x e w'
  | .ok (p, t) => e = .returned (.int .i64 0) ∧ ∃ a', Rs w w' B rb pb S a' p ∧ S.data.toList.drop a' = t
def singleF (p : PS) (s : Bz) : Res (PS × Bz) := match cutAt 39 s with
  | none => .error 2
  | some (t, r) => .ok (p.mark.put 2 t, r)
theorem PAt.mark {w : World} {B pb : Nat} {lv : Value} {p : PS} (h : PAt w B pb lv p) : PAt (w.setCell ⟨pb, 3, none⟩ (.bool true)) B pb lv p.mark ∧ Below B w (w.setCell ⟨pb, 3, none⟩ (.bool true)) := by
  obtain ⟨bv, L, hb, hl, hby⟩ := h.ex
  exact ⟨⟨⟨bv, L, set_of hb 3 _, hl.keep fun g c hg hc => (heap_other (cells_ne hc hb (by decide)) _ _).trans hc, own_keep hby fun g c hg hc => (heap_other (cells_ne hc hb (by decide)) _ _).trans hc⟩, h.ge⟩, (Below.refl _ _).setCell h.ge _⟩
set_option maxRecDepth 100000 in
set_option maxHeartbeats 4000000 in
theorem single_any {w : World} {B rb pb a : Nat} {lv : Value} {p : PS} {S : ByteArray} (hp : PAt w B pb lv p) (hz : p.sz ≤ 90000) (hB : B ≤ w.heap.size) (hr : Rd w rb S a) (hrb : rb < B) (ha : a < S.size) (hs : S.size ≤ 20000) :
    Calls Try.prog 47 #[.pointer (some ⟨rb, 0, none⟩), .pointer (some ⟨pb, 0, none⟩)] w (GoP w B rb pb S (singleF p (S.data.toList.drop (a + 1)))) := by
  obtain ⟨Q, hQ⟩ : ∃ Q, GoP w B rb pb S (singleF p (S.data.toList.drop (a + 1))) = Q := ⟨_, rfl⟩
  rw [hQ]
  have HQ := Lib.hid hQ
  have q0 : w.cell? ⟨rb, 0, none⟩ = some (.string S) := cell_of hr 0
  have q1 : w.cell? ⟨rb, 1, none⟩ = some (.int .i64 a) := cell_of hr 1
  have haI : (a : Int) < (S.size : Int) := by omega
  have haI1 : (a : Int) + 1 ≤ (S.size : Int) := by omega
  have ha0 : (0 : Int) ≤ (a : Int) + 1 := by omega
  have ha1 : IntKind.i64.wrap ((a : Int) + 1) = (a : Int) + 1 := IntWalk.i64_in _ (by omega)
  have hx := ext_end (t := S) (a := a + 1) (by omega)
  obtain ⟨X, hX⟩ : ∃ X, S.extract (a + 1) S.size = X := ⟨_, rfl⟩
  rw [hX] at hx
  have HC := Lib.hid (fun w => Cut_one 39 X w (by omega))
  unfold CutP at HC
  have hF : singleF p (S.data.toList.drop (a + 1)) = match cutAt 39 X.data.toList with
    | none => .error 2
    | some (t, r) => .ok (p.mark.put 2 t, r) := by rw [hx.1]; rfl
  cases hc : cutAt 39 X.data.toList with
  | none =>
    have hA : cutA 39 X = (X, ⟨#[]⟩, false) := by unfold cutA; rw [hc]
    rw [hA] at HC
    simp only at HC
    have HF : Hid (singleF p (S.data.toList.drop (a + 1)) = .error 2) := by rw [Hid, hF, hc]
    have HRD := Lib.hid hr
    clear hQ hF hc hA hx hp hr
    go_enter Try.func47, Try.ntmps47
    go_wp2_with fail
    go_quiet (exact Calls.quiet_of (HC.out _))
    go_wp2_with fail
    rw [← HQ.out, HF.out]
    exact ⟨rfl, by decide, Rb.of_new (drew_below _ _), a, HRD.out.under (drew_below _ _), by omega⟩
  | some z =>
    obtain ⟨t, r⟩ := z
    have hA : cutA 39 X = (⟨t.toArray⟩, ⟨r.toArray⟩, true) := by unfold cutA; rw [hc]
    rw [hA] at HC
    simp only at HC
    have HF : Hid (singleF p (S.data.toList.drop (a + 1)) = .ok (p.mark.put 2 t, r)) := by rw [Hid, hF, hc]
    have heq := (cutAt_eq hc).1
    have hlen : X.size = t.length + 1 + r.length := by rw [← dl, heq]; simp; omega
    obtain ⟨T, hT⟩ : ∃ T : ByteArray, (⟨t.toArray⟩ : ByteArray) = T := ⟨_, rfl⟩
    have hTd : T.data.toList = t := by rw [← hT]
    obtain ⟨R, hR⟩ : ∃ R : ByteArray, (⟨r.toArray⟩ : ByteArray) = R := ⟨_, rfl⟩
    rw [hT, hR] at HC
    have hTs : T.size = t.length := by rw [← dl, hTd]
    have HDR : Hid (S.data.toList.drop (a + (T.size + 2)) = r) := by
      rw [Hid, show a + (T.size + 2) = (a + 1) + (t.length + 1) by omega, ← List.drop_drop, ← hx.1, heq, ← List.drop_drop, List.drop_left]; rfl
    have hb1 : IntKind.i64.wrap ((T.size : Int) + 2) = (T.size : Int) + 2 := IntWalk.i64_in _ (by omega)
    have hb2 : IntKind.i64.wrap ((a : Int) + ((T.size : Int) + 2)) = (a : Int) + ((T.size : Int) + 2) := IntWalk.i64_in _ (by omega)
    have hend : a + (T.size + 2) ≤ S.size := by omega
    have HRD := Lib.hid hr
    have HPP := Lib.hid hp
    obtain ⟨bv0, L0, hpb, _⟩ := hp.ex
    have f3 := free_of hpb 3
    have q3 : w.cell? ⟨pb, 3, none⟩ = some (.bool p.quotes) := cell_of hpb 3
    have hTb : T.size ≤ 100000 := by omega
    have HPUT : Hid (∀ w1, Below w.heap.size w w1 → Calls Try.prog 50 #[.pointer (some ⟨pb, 0, none⟩), .int .i64 2, .string T] (w1.setCell ⟨pb, 3, none⟩ (.bool true)) fun e w' => e = .returned (.tuple #[]) ∧ Below B w w' ∧ ∃ lv', PAt w' B pb lv' (p.mark.put 2 t)) := fun w1 hb => by
      obtain ⟨g1, g2⟩ := (hp.under hb).mark
      have hsz : (w1.setCell ⟨pb, 3, none⟩ (.bool true)).heap.size = w1.heap.size := by simp
      refine (put_any g1 (by rw [mark_sz]; omega) (by rw [hsz]; exact Nat.le_trans hB hb.size) 2 T hTb).mono ?_
      rintro e w' ⟨rfl, lv', k1, k2, _⟩
      rw [hTd] at k1
      exact ⟨rfl, ((hb.mono hB).trans g2).trans k2, lv', k1⟩
    clear hQ hF hc hA hx hp hr hT hR hTd heq hpb hTs hlen
    go_enter Try.func47, Try.ntmps47
    go_wp2_with fail
    go_quiet (exact Calls.quiet_of (HC.out _))
    have HBN := Lib.hid (drew_below w nq)
    go_wp2_with (go_at_call 50; refine (HPUT.out _ HBN.out).mono ?_; rintro e w1 ⟨rfl, h1, h2⟩; have H2 := Lib.hid h2; have H1 := Lib.hid h1; have hrd := HRD.out.below h1 hrb; have q1' : w1.cell? ⟨rb, 1, none⟩ = some (.int .i64 a) := cell_of hrd 1; have f1' := free_of hrd 1; have HRD1 := Lib.hid hrd; clear h1 h2 hrd; simp only [])
    rw [← HQ.out, HF.out]
    obtain ⟨lv', k1⟩ := H2.out
    have hcast : (a : Int) + ((T.size : Int) + 2) = ((a + (T.size + 2) : Nat) : Int) := by omega
    rw [hcast]
    exact ⟨rfl, a + (T.size + 2), ⟨HRD1.out.set _, hend, Rb.trans (Rb.of_below H1.out hB) (Rb.set _ _ _), lv', k1.rd HRD1.out 1 _⟩, HDR.out⟩
end Go.Proofs.Ytafbheplaheohaa
