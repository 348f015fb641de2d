import Derived.Test.YtafbheplaheohaaN
import Derived.StillTailTactics
namespace Go.Proofs.Ytafbheplaheohaa
open Go.RowKit
set_option linter.unusedVariables false

def WordP (w : World) (rb : Nat) (S : ByteArray) (r : Res (List Prt × Bz)) (e : Ending) (w' : World) : Prop := match r with
  | .error x => e = .returned (.tuple #[.slice none 0 0, .int .i64 x]) ∧ x ≠ 0 ∧ Only (fun k => k = rb) w w' ∧ ∃ a', Rd w' rb S a' ∧ a' ≤ 20000
  | .ok (l, t) => Only (fun k => k = rb) w w' ∧ ∃ v a', e = .returned (.tuple #[v, .int .i64 0]) ∧ Wd w' (fun k => w.heap.size ≤ k) v l ∧ Rd w' rb S a' ∧ a' ≤ S.size ∧ S.data.toList.drop a' = t
theorem Rd.setI {w : World} {rb a : Nat} {S : ByteArray} (h : Rd w rb S a) {ai : Int} (a' : Nat) (e : ai = (a' : Int)) : Rd (w.setCell ⟨rb, 1, none⟩ (.int .i64 ai)) rb S a' := by subst e; exact h.set a'
theorem heap_two (w : World) (o o' : Obj) : ((w.alloc o).alloc o').heap[w.heap.size]? = some o ∧ ((w.alloc o).alloc o').heap[w.heap.size + 1]? = some o' := by
  have h1 := heap_alloc_new (w.alloc o) o'
  have hs : (w.alloc o).heap.size = w.heap.size + 1 := by simp
  rw [hs] at h1
  exact ⟨((MapKept.heap_alloc _ _).2 _ (by omega)).trans (heap_alloc_new w o), h1⟩
def zeroL2 : List Value := [.int .i64 3, .string ⟨#[]⟩, .string ⟨#[]⟩, .string ⟨#[]⟩, .slice none 0 0, .bool false]
theorem trim_hash (s : ByteArray) : (∃ m : ByteArray, s.data.toList = 35 :: m.data.toList ∧ (⟨(Lib.trimPrefix s.data.toList [35]).toArray⟩ : ByteArray) = m ∧ Lib.hasPrefix s.data.toList [35] = true) ∨ (s.data.toList.head? ≠ some 35 ∧ Lib.hasPrefix s.data.toList [35] = false) := by
  cases h : s.data.toList with
  | nil => exact .inr ⟨by simp, rfl⟩
  | cons c r =>
    by_cases e : c = 35
    · subst e
      exact .inl ⟨⟨r.toArray⟩, rfl, by simp [Lib.trimPrefix, Lib.hasPrefix], by simp [Lib.hasPrefix]⟩
    · refine .inr ⟨by simpa using e, ?_⟩
      simp [Lib.hasPrefix, List.isPrefixOf]
      exact fun x => e x.symm
theorem brace_head (s : ByteArray) : Lib.hasPrefix s.data.toList [125] = decide (s.data.toList.head? = some 125) := by
  cases h : s.data.toList with
  | nil => rfl
  | cons c r =>
    by_cases e : c = 125
    · subst e; simp [Lib.hasPrefix, List.isPrefixOf]
    · have e' : (125 : UInt8) ≠ c := fun x => e x.symm
      simp [Lib.hasPrefix, List.isPrefixOf, e, e']
theorem headF_a {m : Bz} (h1 : m.head? ≠ some 125) (h2 : opOf m = []) : headF (35 :: m) = ([76], m.take (longParam m), m.drop (longParam m)) := by
  unfold headF; rw [if_pos ⟨rfl, h1, h2⟩]; rfl
theorem headF_b {s : Bz} (h : ¬ (s.head? = some 35 ∧ s.tail.head? ≠ some 125 ∧ opOf s.tail = [])) : headF s = (opOf (s.drop (longParam s)), s.take (longParam s), (s.drop (longParam s)).drop (opOf (s.drop (longParam s))).length) := by
  unfold headF; rw [if_neg h]
/-- The boxes of a call that reads ${: the result's, and the part's. -/
structure Bx (w wx : World) (rb : Nat) (S : ByteArray) (a : Nat) (N O : ByteArray) (V : Value) : Prop where
  z : wx.heap[w.heap.size]? = some (.cells [.int .i64 0, .string ⟨#[]⟩, .string ⟨#[]⟩, .string ⟨#[]⟩, .slice none 0 0, .bool false].toArray 39 (0, 0))
  x : wx.heap[w.heap.size + 1]? = some (.cells [.int .i64 3, .string ⟨#[]⟩, .string N, .string O, V, .bool false].toArray 39 (0, 0))
  rd : Rd wx rb S a
  only : Only (fun k => k = rb) w wx
theorem Bx.drew {w wx : World} {rb a : Nat} {S N O : ByteArray} {V : Value} (h : Bx w wx rb S a N O V) : Bx w wx.drew rb S a N O V := ⟨h.z, h.x, h.rd, ⟨h.only.os, h.only.tape, h.only.output, h.only.size, h.only.block⟩⟩
theorem Bx.under {w wx w' : World} {rb a : Nat} {S N O : ByteArray} {V : Value} (h : Bx w wx rb S a N O V) (hb : Below wx.heap.size wx w') : Bx w w' rb S a N O V :=
  ⟨(hb.block _ (blk_lt h.z)).trans h.z, (hb.block _ (blk_lt h.x)).trans h.x, h.rd.under hb, h.only.trans (Only.of_below (S := fun _ => False) hb) (fun _ h => h) (fun _ _ h => h.elim)⟩
theorem Bx.at {w wx : World} {rb a : Nat} {S N O : ByteArray} {V : Value} (h : Bx w wx rb S a N O V) (hr : rb < w.heap.size) (a' : Nat) {ai : Int} (e : ai = (a' : Int)) : Bx w (wx.setCell ⟨rb, 1, none⟩ (.int .i64 ai)) rb S a' N O V :=
  ⟨(heap_other (by show w.heap.size ≠ rb; omega) _ _).trans h.z, (heap_other (by show w.heap.size + 1 ≠ rb; omega) _ _).trans h.x, h.rd.setI a' e, h.only.set (.inl rfl) _ _⟩
theorem Bx.name {w wx : World} {rb a : Nat} {S N O : ByteArray} {V : Value} (h : Bx w wx rb S a N O V) (hr : rb < w.heap.size) (N' : ByteArray) : Bx w (wx.setCell ⟨w.heap.size + 1, 2, none⟩ (.string N')) rb S a N' O V :=
  ⟨(heap_other (by show w.heap.size ≠ w.heap.size + 1; omega) _ _).trans h.z, set_of h.x 2 _, (heap_other (by show rb ≠ w.heap.size + 1; omega) _ _).trans h.rd, h.only.set (.inr (by omega)) _ _⟩
theorem Bx.op {w wx : World} {rb a : Nat} {S N O : ByteArray} {V : Value} (h : Bx w wx rb S a N O V) (hr : rb < w.heap.size) (O' : ByteArray) : Bx w (wx.setCell ⟨w.heap.size + 1, 3, none⟩ (.string O')) rb S a N O' V :=
  ⟨(heap_other (by show w.heap.size ≠ w.heap.size + 1; omega) _ _).trans h.z, set_of h.x 3 _, (heap_other (by show rb ≠ w.heap.size + 1; omega) _ _).trans h.rd, h.only.set (.inr (by omega)) _ _⟩
theorem Bx.word {w wx : World} {rb a : Nat} {S N O : ByteArray} {V : Value} (h : Bx w wx rb S a N O V) (hr : rb < w.heap.size) (V' : Value) : Bx w (wx.setCell ⟨w.heap.size + 1, 4, none⟩ V') rb S a N O V' :=
  ⟨(heap_other (by show w.heap.size ≠ w.heap.size + 1; omega) _ _).trans h.z, set_of h.x 4 _, (heap_other (by show rb ≠ w.heap.size + 1; omega) _ _).trans h.rd, h.only.set (.inr (by omega)) _ _⟩
theorem Bx.only' {w wx w' : World} {rb a a' : Nat} {S N O : ByteArray} {V : Value} (h : Bx w wx rb S a N O V) (hr : rb < w.heap.size) (ho : Only (fun k => k = rb) wx w') (hd : Rd w' rb S a') : Bx w w' rb S a' N O V :=
  ⟨(ho.block _ (blk_lt h.z) (by omega)).trans h.z, (ho.block _ (blk_lt h.x) (by omega)).trans h.x, hd, h.only.trans ho (fun _ h => h) (fun _ _ h => h)⟩
theorem wd_close {w w9 w11 : World} {rb n8 : Nat} {V u : Value} {l : List Prt} {pt : Pt} (hwd : Wd w9 (fun k => n8 ≤ k) V l) (h1 : w.heap.size + 1 < n8) (hrb : rb < w.heap.size) (hb : Below (w9.setCell ⟨w.heap.size + 1, 4, none⟩ V).heap.size (w9.setCell ⟨w.heap.size + 1, 4, none⟩ V) w11) : Wd (put6 (w11.setCell ⟨rb, 1, none⟩ u) w.heap.size 0 pt) (fun k => w.heap.size ≤ k) V l := by
  have hO : Only (fun k => k < n8) w9 w11 := ((Only.refl (fun k => k < n8) w9).set (.inl h1) 4 V).trans (Only.of_below (S := fun _ => False) hb) (fun _ h => h) (fun _ _ h => h.elim)
  have hn : w.heap.size < n8 := by omega
  have hO2 : Only (fun k => k < n8) w9 (put6 (w11.setCell ⟨rb, 1, none⟩ u) w.heap.size 0 pt) := (((((((hO.set (.inl (by omega)) 1 u).set (.inl hn) _ _).set (.inl hn) _ _).set (.inl hn) _ _).set (.inl hn) _ _).set (.inl hn) _ _).set (.inl hn) _ _)
  exact (hwd.only hO2 (fun g _ h _ => by omega)).mono fun g h => by omega
section
variable {W : Bz → Res (List Prt × Bz)} {q : Bool} {d : Nat} {s o n r : Bz} (h : headF s = (o, n, r))
include h
theorem brace_1 (hn : n = []) : braceF W q d s = .error 2 := by simp only [braceF, h]; rw [if_pos hn]
theorem brace_2 (hn : n ≠ []) (ho : o = [] ∨ o = [76]) (hr : r.head? ≠ some 125) : braceF W q d s = .error 2 := by
  simp only [braceF, h]; rw [if_neg hn, if_pos ho]
  cases r with
  | nil => rfl
  | cons c r => exact if_neg (by simpa using hr)
theorem brace_3 (hn : n ≠ []) (ho : o = [] ∨ o = [76]) (hr : r.head? = some 125) : braceF W q d s = .ok (.mk 3 [] n o [] q, r.drop 1) := by
  simp only [braceF, h]; rw [if_neg hn, if_pos ho]
  cases r with
  | nil => cases hr
  | cons c r => exact if_pos (by simpa using hr)
theorem brace_4 (hn : n ≠ []) (ho : ¬ (o = [] ∨ o = [76])) (hd : d = 40) : braceF W q d s = .error 3 := by
  simp only [braceF, h]; rw [if_neg hn, if_neg ho, if_pos hd]
theorem brace_5 (hn : n ≠ []) (ho : ¬ (o = [] ∨ o = [76])) (hd : d ≠ 40) {x : Nat} (hW : W r = .error x) : braceF W q d s = .error x := by
  simp only [braceF, h]; rw [if_neg hn, if_neg ho, if_neg hd, hW]
theorem brace_6 (hn : n ≠ []) (ho : ¬ (o = [] ∨ o = [76])) (hd : d ≠ 40) {l : List Prt} {t : Bz} (hW : W r = .ok (l, t)) (ht : t.head? ≠ some 125) : braceF W q d s = .error 2 := by
  simp only [braceF, h]; rw [if_neg hn, if_neg ho, if_neg hd, hW]
  cases t with
  | nil => rfl
  | cons c t => exact if_neg (by simpa using ht)
theorem brace_7 (hn : n ≠ []) (ho : ¬ (o = [] ∨ o = [76])) (hd : d ≠ 40) {l : List Prt} {t : Bz} (hW : W r = .ok (l, t)) (ht : t.head? = some 125) : braceF W q d s = .ok (.mk 3 [] n o l q, t.drop 1) := by
  simp only [braceF, h]; rw [if_neg hn, if_neg ho, if_neg hd, hW]
  cases t with
  | nil => cases ht
  | cons c t => exact if_pos (by simpa using ht)
end
theorem opOf_L (s : Bz) : opOf s ≠ [76] := by
  intro h
  unfold opOf at h
  split at h
  · next e => rw [h] at e; revert e; decide
  · split at h
    · next e => rw [h] at e; revert e; decide
    · cases h
end Go.Proofs.Ytafbheplaheohaa

namespace Go.Proofs.Ytafbheplaheohaa
open Go.RowKit
set_option linter.unusedVariables false

/-- read, of which more is known where what is left is shorter. -/
def ReadAt (w : World) (rb pb : Nat) (S : ByteArray) (e : Nat) (q : Bool) (d B a : Nat) (p : PS) : Prop := Calls Try.prog 33 #[.pointer (some ⟨rb, 0, none⟩), .pointer (some ⟨pb, 0, none⟩), .int .i64 e, .bool q, .int .i64 d] w (GoP w B rb pb S (readC e q d p (S.data.toList.drop a)))
def doubF (d : Nat) (p : PS) (s : Bz) : Res (PS × Bz) := match readC 3 true d p.mark s with
  | .error x => .error x
  | .ok (_, []) => .error 2
  | .ok (p', _ :: r') => .ok (p', r')
theorem doub_e {d : Nat} {p : PS} {s : Bz} {x : Nat} (h : readC 3 true d p.mark s = .error x) : doubF d p s = .error x := by unfold doubF; rw [h]
theorem doub_n {d : Nat} {p p' : PS} {s t : Bz} (h : readC 3 true d p.mark s = .ok (p', t)) (ht : t = []) : doubF d p s = .error 2 := by unfold doubF; rw [h, ht]
theorem doub_k {d : Nat} {p p' : PS} {s t : Bz} (h : readC 3 true d p.mark s = .ok (p', t)) (ht : t ≠ []) : doubF d p s = .ok (p', t.drop 1) := by
  unfold doubF; rw [h]
  cases t with
  | nil => exact absurd rfl ht
  | cons c t => rfl
set_option maxRecDepth 100000 in
set_option maxHeartbeats 8000000 in
theorem double_any {w : World} {B rb pb a : Nat} {lv : Value} {p : PS} {S : ByteArray} (d : Nat) (hp : PAt w B pb lv p) (hB : B ≤ w.heap.size) (hr : Rd w rb S a) (hrb : rb < B) (ha : a < S.size) (hs : S.size ≤ 20000)
    (HR : ∀ w1 lv1, PAt w1 B pb lv1 p.mark → B ≤ w1.heap.size → Rd w1 rb S (a + 1) → ReadAt w1 rb pb S 3 true d B (a + 1) p.mark) :
    Calls Try.prog 48 #[.pointer (some ⟨rb, 0, none⟩), .pointer (some ⟨pb, 0, none⟩), .int .i64 d] w (GoP w B rb pb S (doubF d p (S.data.toList.drop (a + 1)))) := by
  obtain ⟨Q, hQ⟩ : ∃ Q, GoP w B rb pb S (doubF d p (S.data.toList.drop (a + 1))) = Q := ⟨_, rfl⟩
  rw [hQ]
  have HQ := Lib.hid hQ
  have q1 : w.cell? ⟨rb, 1, none⟩ = some (.int .i64 a) := cell_of hr 1
  have f1 := free_of hr 1
  have ha1 : IntKind.i64.wrap ((a : Int) + 1) = (a : Int) + 1 := IntWalk.i64_in _ (by omega)
  obtain ⟨bv0, L0, hpb, _⟩ := hp.ex
  have f3 := free_of hpb 3
  have q3 : w.cell? ⟨pb, 3, none⟩ = some (.bool p.quotes) := cell_of hpb 3
  have hne : rb ≠ pb := cells_ne hr hpb (by decide)
  have hne' : pb ≠ rb := fun e => hne e.symm
  -- the world that read begins in
  obtain ⟨g1, g2⟩ := hp.mark
  have hr1 : Rd (w.setCell ⟨pb, 3, none⟩ (.bool true)) rb S a := hr.below g2 hrb
  have hr2 := hr1.setI (ai := (a : Int) + 1) (a + 1) (by omega)
  have hp2 := g1.rd hr1 1 (.int .i64 ((a : Int) + 1))
  have hO2 : Rb B rb w ((w.setCell ⟨pb, 3, none⟩ (.bool true)).setCell ⟨rb, 1, none⟩ (.int .i64 ((a : Int) + 1))) := Rb.trans (Rb.of_below g2 hB) (Rb.set _ _ _)
  have HREAD : Hid (ReadAt ((w.setCell ⟨pb, 3, none⟩ (.bool true)).setCell ⟨rb, 1, none⟩ (.int .i64 ((a : Int) + 1))) rb pb S 3 true d B (a + 1) p.mark) := HR _ lv hp2 (by simpa using hB) hr2
  unfold ReadAt at HREAD
  have HO2 := Lib.hid hO2
  have HRESTA := Lib.hid (fun (a1 : Nat) (w1 : World) (h : Rd w1 rb S a1) (h1 : a1 ≤ S.size) => rest_any rb S a1 w1 h h1 hs)
  clear hQ hp hr hpb g1 g2 hr1 hr2 hp2 hO2 HR
  cases hrc : readC 3 true d p.mark (S.data.toList.drop (a + 1)) with
  | error x =>
    rw [hrc] at HREAD
    have HF : Hid (doubF d p (S.data.toList.drop (a + 1)) = .error x) := doub_e hrc
    unfold GoP ErrP at HREAD
    simp only at HREAD
    clear hrc
    go_enter Try.func48, Try.ntmps48
    go_wp2_with (go_at_call 33; refine HREAD.out.mono ?_; rintro e w5 ⟨rfl, hx0, ho, hrr⟩; have hxI : ((x : Int) == 0) = false := beq_eq_false_iff_ne.2 (by omega); have HX0 := Lib.hid hx0; have HO := Lib.hid ho; have HRR := Lib.hid hrr; clear ho hrr hx0; simp only [])
    rw [← HQ.out, HF.out]
    exact ⟨rfl, HX0.out, Rb.trans HO2.out HO.out, HRR.out⟩
  | ok z =>
    obtain ⟨p', t⟩ := z
    rw [hrc] at HREAD
    unfold GoP at HREAD
    simp only at HREAD
    have HRC := Lib.hid hrc
    clear hrc
    go_enter Try.func48, Try.ntmps48
    go_wp2_with (go_at_call 33; refine HREAD.out.mono ?_; rintro e w5 ⟨rfl, a', hrs, hdr⟩; have HRS := Lib.hid hrs; have HDR := Lib.hid hdr; have q5 : w5.cell? ⟨rb, 1, none⟩ = some (.int .i64 a') := cell_of hrs.rd 1; have f5 := free_of hrs.rd 1; have hle := hrs.le; clear hrs hdr; simp only [])
    have hx := ext_end (t := S) (a := a') hle
    have HRST : Hid (Calls Try.prog 21 #[.pointer (some ⟨rb, 0, none⟩)] w5 fun e w' => e = .returned (.string (S.extract a' S.size)) ∧ Below w5.heap.size w5 w') := HRESTA.out a' w5 HRS.out.rd hle
    obtain ⟨X, hX⟩ : ∃ X, S.extract a' S.size = X := ⟨_, rfl⟩
    rw [hX] at hx HRST
    have ha2 : IntKind.i64.wrap ((a' : Int) + 1) = (a' : Int) + 1 := IntWalk.i64_in _ (by omega)
    have HXD := Lib.hid hx.1
    have HR6 : Hid (∀ w6, Below w5.heap.size w5 w6 → Rd w6 rb S a' ∧ Rb B rb w w6 ∧ ∃ lv', PAt w6 B pb lv' p') := fun w6 hb => by
      obtain ⟨k1, k2, k3, lv', k4⟩ := HRS.out
      exact ⟨k1.under hb, Rb.trans (Rb.trans HO2.out k3) (Rb.of_new hb), lv', k4.under hb⟩
    clear hX q5 f5
    by_cases hn : X.data.toList = []
    · have hE := isE_of hn
      have HF : Hid (doubF d p (S.data.toList.drop (a + 1)) = .error 2) := doub_n HRC.out (by rw [← HDR.out, ← HXD.out, hn])
      go_wp2_with (go_at_call 21; refine HRST.out.mono ?_; rintro e w6 ⟨rfl, h6⟩; have H6 := Lib.hid (HR6.out w6 h6); clear h6; simp only [])
      rw [← HQ.out, HF.out]
      exact ⟨rfl, by decide, H6.out.2.1, a', H6.out.1, by omega⟩
    · have hE := isE_ne hn
      have HF : Hid (doubF d p (S.data.toList.drop (a + 1)) = .ok (p', t.drop 1)) := doub_k HRC.out (by rw [← HDR.out, ← HXD.out]; exact hn)
      have hlt : a' < S.size := by
        by_cases h : a' < S.size
        · exact h
        · exact absurd (by rw [HXD.out]; exact List.drop_of_length_le (by rw [dl]; omega)) hn
      go_wp2_with (go_at_call 21; refine HRST.out.mono ?_; rintro e w6 ⟨rfl, h6⟩; have h := HR6.out w6 h6; have q6 : w6.cell? ⟨rb, 1, none⟩ = some (.int .i64 a') := cell_of h.1 1; have f6 := free_of h.1 1; have H6 := Lib.hid h; clear h h6; simp only [])
      rw [← HQ.out, HF.out]
      obtain ⟨k1, k2, lv', k4⟩ := H6.out
      exact ⟨rfl, a' + 1, ⟨k1.setI (a' + 1) (by omega), by omega, Rb.trans k2 (Rb.set _ _ _), lv', k4.rd k1 1 _⟩, by rw [← HDR.out, List.drop_drop]⟩
end Go.Proofs.Ytafbheplaheohaa

namespace Go.Proofs.Ytafbheplaheohaa
open Go.RowKit
set_option linter.unusedVariables false

theorem readF_sz : ∀ (f e : Nat) (q : Bool) (d : Nat) (p : PS) (s : Bz) (p' : PS) (r : Bz), readF f e q d p s = .ok (p', r) → p'.sz + r.length ≤ p.sz + s.length
  | 0, _, _, _, _, _, _, _, h => by cases h
  | f + 1, e, q, d, p, [], p', r, h => by rw [readF] at h; cases h; exact Nat.le_refl _
  | f + 1, e, q, d, p, c :: s, p', r, h => by
    rw [readF] at h
    have ih := readF_sz f
    split at h
    · cases h; exact Nat.le_refl _
    split at h
    · have := ih _ _ _ _ _ _ _ h
      have := escF_sz q p s
      simp; omega
    split at h
    · split at h
      · cases h
      · rename_i t r' e1
        have := ih _ _ _ _ _ _ _ h
        have h2 := congrArg List.length (cutAt_eq e1).1
        have h3 := put_sz p.mark 2 t
        rw [mark_sz] at h3
        simp at h2 ⊢; omega
    split at h
    · split at h
      · cases h
      · cases h
      · rename_i p1 c1 r1 e1
        have := ih _ _ _ _ _ _ _ h
        have h2 := ih _ _ _ _ _ _ _ e1
        rw [mark_sz] at h2
        simp at this h2 ⊢; omega
    split at h
    · split at h
      · cases h
      · rename_i p1 r1 e1
        have := ih _ _ _ _ _ _ _ h
        have := dollF_sz (fun t w r _ hw => by
          obtain ⟨p2, e2, _⟩ := allR_ok hw
          exact readF_len f _ _ _ _ _ _ _ e2) e1
        simp; omega
    split at h
    · cases h
    · have := ih _ _ _ _ _ _ _ h
      have := put_sz p (if q then 2 else 1) [c]
      simp at this ⊢; omega
theorem readC_sz {e : Nat} {q : Bool} {d : Nat} {p : PS} {s : Bz} {p' : PS} {r : Bz} (h : readC e q d p s = .ok (p', r)) : p'.sz + r.length ≤ p.sz + s.length := readF_sz _ _ _ _ _ _ _ _ h
/-- Where a reading of n bytes comes to, if it is known. -/
def RP (n : Nat) : Prop := ∀ (w : World) (B rb pb a : Nat) (lv : Value) (p : PS) (S : ByteArray) (e : Nat) (q : Bool) (d : Nat), S.size - a = n → e ≤ 3 → d + (S.size - a) ≤ 100000 → PAt w B pb lv p → p.sz + (S.size - a) ≤ 60000 → B ≤ w.heap.size → Rd w rb S a → rb < B → a ≤ S.size → S.size ≤ 20000 → ReadAt w rb pb S e q d B a p
end Go.Proofs.Ytafbheplaheohaa

namespace Go.Proofs.Ytafbheplaheohaa
open Go.RowKit
set_option linter.unusedVariables false
set_option maxRecDepth 100000 in
set_option maxHeartbeats 8000000 in
/-- A word, where reading is known. -/
theorem word_of {w : World} {rb a : Nat} {S : ByteArray} (ih : RP (S.size - a)) (q : Bool) (d e : Nat) (he : e ≤ 3) (hd : d + (S.size - a) ≤ 100000) (hr : Rd w rb S a) (ha : a ≤ S.size) (hs : S.size ≤ 20000) :
    Calls Try.prog 23 #[.pointer (some ⟨rb, 0, none⟩), .int .i64 e, .bool q, .int .i64 d] w (WordP w rb S (allR (readC e q d ps0 (S.data.toList.drop a)))) := by
  obtain ⟨Q, hQ⟩ : ∃ Q, WordP w rb S (allR (readC e q d ps0 (S.data.toList.drop a))) = Q := ⟨_, rfl⟩
  rw [hQ]
  have HQ := Lib.hid hQ
  have hrl := blk_lt hr
  have hbe : Below w.heap.size w (w.alloc (.cells #[.slice none 0 0, .int .i64 0, .slice none 0 0, .bool false] 68)) := (Below.refl _ _).alloc (Nat.le_refl _) _
  have hp0 : PAt (w.alloc (.cells #[.slice none 0 0, .int .i64 0, .slice none 0 0, .bool false] 68)) w.heap.size w.heap.size (.slice none 0 0) ps0 := ⟨⟨.slice none 0 0, [], heap_alloc_new w _, PRow.nil _ _, World.ownsRow_nil _ _ _ _⟩, Nat.le_refl _⟩
  have hsz : (w.alloc (.cells #[.slice none 0 0, .int .i64 0, .slice none 0 0, .bool false] 68)).heap.size = w.heap.size + 1 := by simp
  have HREAD : Hid (ReadAt (w.alloc (.cells #[.slice none 0 0, .int .i64 0, .slice none 0 0, .bool false] 68)) rb w.heap.size S e q d w.heap.size a ps0) := ih _ _ _ _ _ _ ps0 S e q d rfl he hd hp0 (by show 0 + 0 + _ ≤ _; omega) (by omega) (hr.under hbe) hrl ha hs
  unfold ReadAt at HREAD
  have HOB : Hid (∀ w', Rb w.heap.size rb (w.alloc (.cells #[.slice none 0 0, .int .i64 0, .slice none 0 0, .bool false] 68)) w' → Only (fun k => k = rb) w w') := fun w' h =>
    (Only.of_below (S := fun k => k = rb) hbe).trans h (fun _ h => h) (fun i hi h => h.elim id fun h => absurd h (by omega))
  clear hQ hr hbe hp0
  cases hrc : readC e q d ps0 (S.data.toList.drop a) with
  | error x =>
    rw [hrc] at HREAD
    have HF : Hid (allR (readC e q d ps0 (S.data.toList.drop a)) = .error x) := by rw [Hid, hrc]; rfl
    unfold GoP ErrP at HREAD
    simp only at HREAD
    clear hrc
    go_enter Try.func23, Try.ntmps23
    go_wp2_with (go_at_call 33; refine HREAD.out.mono ?_; rintro e w5 ⟨rfl, hx0, ho, hrr⟩; have hxI : ((x : Int) == 0) = false := beq_eq_false_iff_ne.2 (by omega); have HX0 := Lib.hid hx0; have HO := Lib.hid (HOB.out _ ho); have HRR := Lib.hid hrr; clear ho hrr hx0; simp only [])
    rw [← HQ.out, HF.out]
    exact ⟨rfl, HX0.out, HO.out, HRR.out⟩
  | ok z =>
    obtain ⟨p', t⟩ := z
    rw [hrc] at HREAD
    unfold GoP at HREAD
    simp only at HREAD
    have hsz' := readC_sz hrc
    have hps : ps0.sz = 0 := rfl
    rw [List.length_drop, dl, hps] at hsz'
    have HF : Hid (allR (readC e q d ps0 (S.data.toList.drop a)) = .ok (p'.all, t)) := by rw [Hid, hrc]; rfl
    have HALL : Hid (∀ w5 a', Rs (w.alloc (.cells #[.slice none 0 0, .int .i64 0, .slice none 0 0, .bool false] 68)) w5 w.heap.size rb w.heap.size S a' p' → Calls Try.prog 34 #[.pointer (some ⟨w.heap.size, 0, none⟩)] w5 fun e w' => ∃ va vn vc, e = .returned (.slice va vn vc) ∧ Wd w' (fun k => w.heap.size ≤ k) (.slice va vn vc) p'.all ∧ Only (fun k => k = rb) w w' ∧ Rd w' rb S a') := by
      intro w5 a' h
      obtain ⟨k1, k2, k3, lv', k4⟩ := h
      have hs5 := k3.size
      refine (all_any k4 (by omega) (by omega)).mono ?_
      rintro e w' ⟨v, rfl, h1, h2⟩
      obtain ⟨va, vc, rfl⟩ := h1.form
      exact ⟨va, _, vc, rfl, h1, HOB.out _ (Rb.trans k3 (Rb.of_below h2 (by omega))), k1.below h2 hrl⟩
    clear hrc
    go_enter Try.func23, Try.ntmps23
    go_wp2_with (first
      | (go_at_call 33; refine HREAD.out.mono ?_; rintro e w5 ⟨rfl, a', hrs, hdr⟩; have HRS := Lib.hid hrs; have HDR := Lib.hid hdr; have hle := hrs.le; clear hrs hdr; simp only [])
      | (go_at_call 34; refine (HALL.out _ a' HRS.out).mono ?_; rintro e w6 ⟨va, vn, vc, rfl, h1, h2, h3⟩; have H1 := Lib.hid h1; have H2 := Lib.hid h2; have H3 := Lib.hid h3; clear h1 h2 h3; simp only []))
    rw [← HQ.out, HF.out]
    exact ⟨H2.out, _, a', rfl, H1.out, H3.out, hle, HDR.out⟩
end Go.Proofs.Ytafbheplaheohaa
