import Derived.Test.YtjagnihkpgbjeaaDoorFH
import Derived.Test.YtjagnihkpgbjeaaDoorGF
import Derived.Scope
namespace Go.Proofs.YtjagnihkpgbjeaaDoor
open Go.RowKit Go.Maps Go.ChangeMaps
set_option linter.unusedVariables false
/-! The walk over the graph: its block, and what sort does. -/
structure GCtx (wI : World) (f : Nat) (T : Tr) (rs : List Rl) (rv : Value) : Prop where
  fs : ∃ B0 N0 c0 F, Fs wI B0 N0 f c0 T F
  rsv : RsV wI rv rs
  len : rs.length ≤ 1000
  few : ∀ r ∈ rs, r.ns.length ≤ 100
  norc : ∀ r ∈ rs, r.rc = []
def wkC (am : Option Addr) (nm cm : Nat) (ar : Option Addr) (nr cr f mb : Nat) (s : GS) (ov : Value) : List Value :=
  [.slice am nm cm, .slice ar nr cr, .pointer (some ⟨f, 0, none⟩), .string ⟨#[47]⟩, .map (some mb), .int .i64 s.reached, .int .i64 s.nested, ov]
structure WA (wI w : World) (f wb mb : Nat) (am : Option Addr) (nm cm : Nat) (ar : Option Addr) (nr cr : Nat) (ov : Value) (s : GS) : Prop where
  blk : w.heap[wb]? = some (.cells (wkC am nm cm ar nr cr f mb s ov).toArray 100 (0, 0))
  map : IMap w mb (2 * s.reached - s.nested) s.st
  ord : w.ownsRow wI.heap.size 9 1 ov s.order.length (s.order.map encStr)
  ge : wI.heap.size ≤ wb ∧ wI.heap.size ≤ mb
  sep : ∀ g, ov.ownBlock = some g → g ≠ wb ∧ g ≠ mb
  old : Below wI.heap.size wI w
  nr : s.nested ≤ s.reached
  rb : s.reached ≤ 1000
  ol : s.order.length + s.nested ≤ s.reached
def SS (wb mb : Nat) (ov : Value) (j : Nat) : Prop := j = wb ∨ j = mb ∨ ov.ownBlock = some j
/-- From w to w': but for the walk's own blocks nothing has turned. -/
structure Rw (wb mb : Nat) (w w' : World) (ov ov' : Value) : Prop where
  oth : Only (SS wb mb ov) w w'
  wher : ∀ g, ov'.ownBlock = some g → ov.ownBlock = some g ∨ w.heap.size ≤ g
theorem Rw.refl (wb mb : Nat) (w : World) (ov : Value) : Rw wb mb w w ov ov := ⟨Only.refl _ _, fun g h => .inl h⟩
theorem Rw.trans {wb mb : Nat} {a b c : World} {u v x : Value} (h : Rw wb mb a b u v) (k : Rw wb mb b c v x) : Rw wb mb a c u x := by
  refine ⟨h.oth.trans k.oth (fun _ h => h) (fun i hi e => ?_), fun g hg => ?_⟩
  · rcases e with e | e | e
    · exact .inl e
    · exact .inr (.inl e)
    · rcases h.wher i e with e | e
      · exact .inr (.inr e)
      · omega
  · rcases k.wher g hg with e | e
    · exact h.wher g e
    · exact .inr (Nat.le_trans h.oth.size e)
theorem Rw.below {wb mb : Nat} {a b c : World} {u v : Value} (h : Rw wb mb a b u v) (hb : Below b.heap.size b c) : Rw wb mb a c u v :=
  ⟨h.oth.trans (Only.of_below (S := SS wb mb u) hb) (fun _ h => h) (fun _ _ h => h), h.wher⟩
theorem WA.below {wI w w' : World} {f wb mb : Nat} {am ar : Option Addr} {nm cm nr cr : Nat} {ov : Value} {s : GS} (h : WA wI w f wb mb am nm cm ar nr cr ov s) (hb : Below w.heap.size w w') : WA wI w' f wb mb am nm cm ar nr cr ov s :=
  ⟨(hb.block _ (Array.getElem?_eq_some_iff.1 h.blk).1).trans h.blk, h.map.blk (hb.block _ h.map.lt), own_keep3 h.ord hb, h.ge, h.sep, h.old.trans (hb.mono h.old.size), h.nr, h.rb, h.ol⟩
theorem WA.ne {wI w : World} {f wb mb : Nat} {am ar : Option Addr} {nm cm nr cr : Nat} {ov : Value} {s : GS} (h : WA wI w f wb mb am nm cm ar nr cr ov s) : mb ≠ wb := fun e => h.map.no_cells (by rw [e]; exact h.blk)
theorem box100 {w : World} {a : Nat} {v0 v1 v2 v3 v4 v5 v6 v7 : Value} (hb : w.heap[a]? = some (.cells [v0, v1, v2, v3, v4, v5, v6, v7].toArray 100 (0, 0))) :
    w.cell? ⟨a, 0, none⟩ = some v0 ∧ w.cell? ⟨a, 1, none⟩ = some v1 ∧ w.cell? ⟨a, 2, none⟩ = some v2 ∧ w.cell? ⟨a, 3, none⟩ = some v3 ∧ w.cell? ⟨a, 4, none⟩ = some v4 ∧ w.cell? ⟨a, 5, none⟩ = some v5 ∧ w.cell? ⟨a, 6, none⟩ = some v6 ∧ w.cell? ⟨a, 7, none⟩ = some v7 ∧ (∀ i, w.frozen? ⟨a, i, none⟩ = false) :=
  ⟨cell_of hb 0, cell_of hb 1, cell_of hb 2, cell_of hb 3, cell_of hb 4, cell_of hb 5, cell_of hb 6, cell_of hb 7, fun i => free_of hb i⟩
section
variable {w : World} {B N f : Nat} {c : Cn} {T : Tr} {F : Nat → Prop} {s : Bz}
set_option maxRecDepth 100000 in
set_option maxHeartbeats 4000000 in
theorem thereG_any (hF : Fs w B N f c T F) (hs : Nm s) (b : Bool) (hb : thF T s = b) (wb : Nat) (hlt : wb < w.heap.size) (q2 : w.cell? ⟨wb, 2, none⟩ = some (.pointer (some ⟨f, 0, none⟩))) (q3 : w.cell? ⟨wb, 3, none⟩ = some (.string ⟨#[47]⟩)) :
    Calls Tryd.prog 83 #[.pointer (some ⟨wb, 0, none⟩), .string (nameB s)] w fun e w' => e = .returned (.bool b) ∧ Below w.heap.size w w' := by
  have HA := Lib.hid (AbsN_any s hs w)
  obtain ⟨k, hk⟩ : ∃ k, kdF T s = k := ⟨_, rfl⟩
  have HK := Lib.hid (fun (w' : World) (hb : Below w.heap.size w w') => Kind_any (hF.below hb) hs k hk)
  have hkb : (k != 0) = b := by
    rw [← hk, ← hb]
    unfold kdF thF
    cases T [s] with
    | none => rfl
    | some n => cases h : n.file <;> simp [h]
  obtain ⟨nb, hnb⟩ : ∃ nb, nameB s = nb := ⟨_, rfl⟩
  obtain ⟨pb, hpb⟩ : ∃ pb, pathB s = pb := ⟨_, rfl⟩
  rw [hnb] at HA ⊢
  rw [hpb] at HA HK
  clear hF hs hb hk hnb hpb
  go_enter Tryd.func83, Tryd.ntmps83
  go_wp2_with (first
    | (go_at_call 64; refine HA.out.mono ?_; rintro e w1 ⟨rfl, h1⟩; have H1 := Lib.hid h1; have p2 := (h1.cell (p := ⟨wb, 2, none⟩) hlt).trans q2; clear h1; simp only [])
    | (go_at_call 88; refine (HK.out _ H1.out).mono ?_; rintro e w2 ⟨rfl, h2⟩; have H2 := Lib.hid h2; clear h2; simp only []))
  go_ret
  exact ⟨rfl, below_trans H1.out H2.out⟩
end
end Go.Proofs.YtjagnihkpgbjeaaDoor

namespace Go.Proofs.YtjagnihkpgbjeaaDoor
open Go.RowKit Go.Maps Go.ChangeMaps
set_option linter.unusedVariables false
theorem IMap.of_put {w : World} {N nn b : Nat} {D : DataW Unit} {st : Bs → Int} {k : Bs} {a : Int} (h : w.ownsMap Tryd.prog 9 (plainElem (H := Unit) Tryd.prog 3) b (nn + 1) (D.put (.string k) (.lit (.int .i64 a)))) (hn : nn ≤ N) (hD : IsMap D)
    (hg : ∀ x : Bs, D.atKey (.string x) (.lit (.int .i64 0)) = .lit (.int .i64 (st x))) : IMap w b (N + 1) (setS st k a) := by
  refine ⟨nn + 1, _, by omega, h, fun x => ?_⟩
  unfold setS
  by_cases hx : x = k
  · subst hx
    rw [if_pos rfl]
    exact atKey_put_same hD (keyLit _) _ _
  · rw [if_neg hx]
    have hne : (Lit.string x) ≠ .string k := fun e => hx (by injection e)
    exact (atKey_put_other hne _ _).trans (hg x)
theorem own_onlyS {w w' : World} {B e sz n : Nat} {v : Value} {xs : List Value} {F : Nat → Prop} (h : w.ownsRow B e sz v n xs) (ho : Only F w w') (hF : ∀ g, v.ownBlock = some g → ¬ F g) : w'.ownsRow B e sz v n xs := by
  refine ⟨h.1, ?_⟩
  rcases h.2 with hn | ⟨g, cap, cur, rfl, h1, h2, r⟩
  · exact .inl hn
  · exact .inr ⟨g, cap, cur, rfl, h1, (ho.block g (Array.getElem?_eq_some_iff.1 h2).1 (hF g rfl)).trans h2, r⟩
section
variable {wI : World} {f wb mb : Nat} {am ar : Option Addr} {nm cm nr cr : Nat}
theorem WA.lts {w : World} {ov : Value} {s : GS} (h : WA wI w f wb mb am nm cm ar nr cr ov s) : wb < w.heap.size ∧ mb < w.heap.size ∧ ∀ g, ov.ownBlock = some g → g < w.heap.size :=
  ⟨(Array.getElem?_eq_some_iff.1 h.blk).1, h.map.lt, fun g hg => (h.ord.lt g hg).2⟩
/-- A target is opened: its state, and the two counts. -/
theorem WA.opened {w w1 : World} {ov : Value} {s : GS} (h : WA wI w f wb mb am nm cm ar nr cr ov s) (t : Bs) {nn : Nat} {D : DataW Unit} (hnn : nn ≤ 2 * s.reached - s.nested) (hD : IsMap D)
    (hg : ∀ x : Bs, D.atKey (.string x) (.lit (.int .i64 0)) = .lit (.int .i64 (s.st x))) (h1 : w1.ownsMap Tryd.prog 9 (plainElem (H := Unit) Tryd.prog 3) mb (nn + 1) (D.put (.string t) (.lit (.int .i64 1)))) (g1 : w.grownBy w1 (some mb)) (hr : s.reached < 1000) :
    w1.heap[wb]? = some (.cells (wkC am nm cm ar nr cr f mb s ov).toArray 100 (0, 0)) ∧
    WA wI ((w1.setCell ⟨wb, 5, none⟩ (.int .i64 ((s.reached : Int) + 1))).setCell ⟨wb, 6, none⟩ (.int .i64 ((s.nested : Int) + 1))) f wb mb am nm cm ar nr cr ov (openS s t) ∧ Rw wb mb w ((w1.setCell ⟨wb, 5, none⟩ (.int .i64 ((s.reached : Int) + 1))).setCell ⟨wb, 6, none⟩ (.int .i64 ((s.nested : Int) + 1))) ov ov := by
  have hne := h.ne
  have hls := h.lts
  have hb1 : w1.heap[wb]? = some (.cells (wkC am nm cm ar nr cr f mb s ov).toArray 100 (0, 0)) := (g1.block wb hls.1 (by simpa using hne.symm)).trans h.blk
  have ho1 : Only (SS wb mb ov) w w1 := Only.of_grown g1 (fun k e => by cases e; exact .inr (.inl rfl))
  have ho2 : Only (SS wb mb ov) w ((w1.setCell ⟨wb, 5, none⟩ (.int .i64 ((s.reached : Int) + 1))).setCell ⟨wb, 6, none⟩ (.int .i64 ((s.nested : Int) + 1))) := (ho1.set (.inl (.inl rfl)) 5 _).set (.inl (.inl rfl)) 6 _
  have how : Only (fun j => j = wb) w1 ((w1.setCell ⟨wb, 5, none⟩ (.int .i64 ((s.reached : Int) + 1))).setCell ⟨wb, 6, none⟩ (.int .i64 ((s.nested : Int) + 1))) := ((Only.refl (fun j => j = wb) w1).set (.inl rfl) 5 _).set (.inl rfl) 6 _
  refine ⟨hb1, ⟨?_, ?_, ?_, h.ge, h.sep, ?_, ?_, ?_, ?_⟩, ⟨ho2, fun g hg => .inl hg⟩⟩
  · have := set_of (set_of hb1 5 (.int .i64 ((s.reached : Int) + 1))) 6 (.int .i64 ((s.nested : Int) + 1))
    exact this
  · have hm := (IMap.of_put h1 hnn hD hg).blk (w' := (w1.setCell ⟨wb, 5, none⟩ (.int .i64 ((s.reached : Int) + 1))).setCell ⟨wb, 6, none⟩ (.int .i64 ((s.nested : Int) + 1))) (how.block mb h1.lt hne)
    obtain ⟨a, b, c, d, e⟩ := hm
    exact ⟨a, b, by have := h.nr; show a ≤ 2 * (s.reached + 1) - (s.nested + 1); omega, d, e⟩
  · refine own_onlyS (F := fun j => j = wb ∨ j = mb) h.ord ((Only.of_grown (S := fun j => j = wb ∨ j = mb) g1 (fun k e => by cases e; exact .inr rfl)).trans how (fun _ h => h) (fun _ _ h => .inl h)) (fun g hg e => ?_)
    rcases e with e | e
    · exact (h.sep g hg).1 e
    · exact (h.sep g hg).2 e
  · exact h.old.trans (ho2.below (fun k hk => by
      rcases hk with e | e | e
      · rw [e]; exact h.ge.1
      · rw [e]; exact h.ge.2
      · exact (h.ord.lt k e).1) h.old.size)
  · have := h.nr; show s.nested + 1 ≤ s.reached + 1; omega
  · show s.reached + 1 ≤ 1000; omega
  · have := h.ol; show s.order.length + (s.nested + 1) ≤ s.reached + 1; omega
/-- A target is closed: the count of those that are open, its state, the order. -/
theorem WA.closed {w4 w6 w7 : World} {ov v' : Value} {s : GS} {q : Nat} (h : WA wI w4 f wb mb am nm cm ar nr cr ov s) (hq : s.nested = q + 1) (t : Bs) {nn : Nat} {D : DataW Unit} (hnn : nn ≤ 2 * s.reached - s.nested) (hD : IsMap D)
    (hg : ∀ x : Bs, D.atKey (.string x) (.lit (.int .i64 0)) = .lit (.int .i64 (s.st x))) (h1 : w6.ownsMap Tryd.prog 9 (plainElem (H := Unit) Tryd.prog 3) mb (nn + 1) (D.put (.string t) (.lit (.int .i64 2)))) (g1 : (w4.setCell ⟨wb, 6, none⟩ (.int .i64 q)).grownBy w6 (some mb))
    (hown : w7.ownsRow wI.heap.size 9 1 v' (s.order ++ [t]).length ((s.order ++ [t]).map encStr)) (ho7 : Only (fun j => ov.ownBlock = some j) w6 w7) (hwh : ∀ g, v'.ownBlock = some g → ov.ownBlock = some g ∨ w6.heap.size ≤ g) :
    w7.heap[wb]? = some (.cells [.slice am nm cm, .slice ar nr cr, .pointer (some ⟨f, 0, none⟩), .string ⟨#[47]⟩, .map (some mb), .int .i64 s.reached, .int .i64 q, ov].toArray 100 (0, 0)) ∧
    WA wI (w7.setCell ⟨wb, 7, none⟩ v') f wb mb am nm cm ar nr cr v' (closeS s t) ∧ Rw wb mb w4 (w7.setCell ⟨wb, 7, none⟩ v') ov v' := by
  have hne := h.ne
  have hls := h.lts
  have hb5 : (w4.setCell ⟨wb, 6, none⟩ (.int .i64 q)).heap[wb]? = some (.cells [.slice am nm cm, .slice ar nr cr, .pointer (some ⟨f, 0, none⟩), .string ⟨#[47]⟩, .map (some mb), .int .i64 s.reached, .int .i64 q, ov].toArray 100 (0, 0)) := set_of h.blk 6 _
  have ho5 : Only (SS wb mb ov) w4 (w4.setCell ⟨wb, 6, none⟩ (.int .i64 q)) := (Only.refl (SS wb mb ov) w4).set (.inl (.inl rfl)) 6 _
  have ho6 : Only (SS wb mb ov) w4 w6 := ho5.trans (Only.of_grown (S := SS wb mb ov) g1 (fun k e => by cases e; exact .inr (.inl rfl))) (fun _ h => h) (fun _ _ h => h)
  have hs6 := ho6.size
  have ho47 : Only (SS wb mb ov) w4 w7 := ho6.trans ho7 (fun _ h => h) (fun i hi e => .inr (.inr e))
  have l5 : wb < (w4.setCell ⟨wb, 6, none⟩ (.int .i64 q)).heap.size := by simpa using hls.1
  have hb6 := (g1.block wb l5 (by simpa using hne.symm)).trans hb5
  have hb7 := (ho7.block wb (Array.getElem?_eq_some_iff.1 hb6).1 (fun e => (h.sep wb e).1 rfl)).trans hb6
  have ho8 : Only (SS wb mb ov) w4 (w7.setCell ⟨wb, 7, none⟩ v') := ho47.set (.inl (.inl rfl)) 7 _
  have hwh4 : ∀ g, v'.ownBlock = some g → ov.ownBlock = some g ∨ w4.heap.size ≤ g := fun g hg => (hwh g hg).imp id (fun e => Nat.le_trans hs6 e)
  have hsep : ∀ g, v'.ownBlock = some g → g ≠ wb ∧ g ≠ mb := fun g hg => by
    rcases hwh4 g hg with e | e
    · exact h.sep g e
    · have := hls.1; have := hls.2.1; exact ⟨by omega, by omega⟩
  refine ⟨hb7, ⟨?_, ?_, ?_, h.ge, hsep, ?_, ?_, h.rb, ?_⟩, ⟨ho8, hwh4⟩⟩
  · have := set_of hb7 7 v'
    have e : (closeS s t).nested = q := by show s.nested - 1 = q; omega
    unfold wkC
    rw [e]
    exact this
  · have hm := (IMap.of_put h1 hnn hD hg).blk (w' := w7.setCell ⟨wb, 7, none⟩ v') ((Below.heap_setCell _ _ _ _ (by show mb ≠ wb; exact hne)).trans (ho7.block mb h1.lt (fun e => (h.sep mb e).2 rfl)))
    obtain ⟨a, b, c, d, e⟩ := hm
    refine ⟨a, b, ?_, d, e⟩
    have := h.nr
    show a ≤ 2 * s.reached - (s.nested - 1)
    omega
  · exact own_onlyS (F := fun j => j = wb) hown ((Only.refl (fun j => j = wb) w7).set (.inl rfl) 7 v') (fun g hg e => (hsep g hg).1 e)
  · exact h.old.trans (ho8.below (fun k hk => by
      rcases hk with e | e | e
      · rw [e]; exact h.ge.1
      · rw [e]; exact h.ge.2
      · exact (h.ord.lt k e).1) h.old.size)
  · have := h.nr; show s.nested - 1 ≤ s.reached; omega
  · have := h.ol
    show (s.order ++ [t]).length + (s.nested - 1) ≤ s.reached
    rw [List.length_append]
    simp; omega
end
end Go.Proofs.YtjagnihkpgbjeaaDoor
