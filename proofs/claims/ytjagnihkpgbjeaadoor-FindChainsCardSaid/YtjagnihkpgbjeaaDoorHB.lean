import Derived.Test.YtjagnihkpgbjeaaDoorHA
import Derived.Test.YtjagnihkpgbjeaaDoorGF
import Derived.Scope
namespace Go.Proofs.YtjagnihkpgbjeaaDoor
open Go.RowKit Go.Maps Go.ChangeMaps
set_option linter.unusedVariables false
/-! The walk over the graph: its block, and what sort does. -/
structure GCtx (wI : World) (f : Nat) (T : Tr) (rs : List Rl) (rv : Value) : Prop where
  fs : ∃ B0 N0 c0 F, Fs wI B0 N0 f c0 T F
  rsv : RsV wI rv rs
  len : rs.length ≤ 1000
  few : ∀ r ∈ rs, r.ns.length ≤ 100
  norc : ∀ r ∈ rs, r.rc = []
def wkC (am : Option Addr) (nm cm : Nat) (ar : Option Addr) (nr cr f mb : Nat) (s : GS) (ov : Value) : List Value :=
  [.slice am nm cm, .slice ar nr cr, .pointer (some ⟨f, 0, none⟩), .string ⟨#[47]⟩, .map (some mb), .int .i64 s.reached, .int .i64 s.nested, ov]
structure WA (wI w : World) (f wb mb : Nat) (am : Option Addr) (nm cm : Nat) (ar : Option Addr) (nr cr : Nat) (ov : Value) (s : GS) : Prop where
  blk : w.heap[wb]? = some (.cells (wkC am nm cm ar nr cr f mb s ov).toArray 100 (0, 0))
  map : IMap w mb (2 * s.reached - s.nested) s.st
  ord : w.ownsRow wI.heap.size 9 1 ov s.order.length (s.order.map encStr)
  ge : wI.heap.size ≤ wb ∧ wI.heap.size ≤ mb
  sep : ∀ g, ov.ownBlock = some g → g ≠ wb ∧ g ≠ mb
  old : Below wI.heap.size wI w
  nr : s.nested ≤ s.reached
  rb : s.reached ≤ 1000
  ol : s.order.length + s.nested ≤ s.reached
def SS (wb mb : Nat) (ov : Value) (j : Nat) : Prop := j = wb ∨ j = mb ∨ ov.ownBlock = some j
/-- From w to w': but for the walk's own blocks nothing has turned. -/
structure Rw (wb mb : Nat) (w w' : World) (ov ov' : Value) : Prop where
  oth : Only (SS wb mb ov) w w'
  wher : ∀ g, ov'.ownBlock = some g → ov.ownBlock = some g ∨ w.heap.size ≤ g
theorem Rw.refl (wb mb : Nat) (w : World) (ov : Value) : Rw wb mb w w ov ov := ⟨Only.refl _ _, fun g h => .inl h⟩
theorem Rw.trans {wb mb : Nat} {a b c : World} {u v x : Value} (h : Rw wb mb a b u v) (k : Rw wb mb b c v x) : Rw wb mb a c u x := by
  refine ⟨h.oth.trans k.oth (fun _ h => h) (fun i hi e => ?_), fun g hg => ?_⟩
  · rcases e with e | e | e
    · exact .inl e
    · exact .inr (.inl e)
    · rcases h.wher i e with e | e
      · exact .inr (.inr e)
      · omega
  · rcases k.wher g hg with e | e
    · exact h.wher g e
    · exact .inr (Nat.le_trans h.oth.size e)
theorem Rw.below {wb mb : Nat} {a b c : World} {u v : Value} (h : Rw wb mb a b u v) (hb : Below b.heap.size b c) : Rw wb mb a c u v :=
  ⟨h.oth.trans (Only.of_below (S := SS wb mb u) hb) (fun _ h => h) (fun _ _ h => h), h.wher⟩
theorem WA.below {wI w w' : World} {f wb mb : Nat} {am ar : Option Addr} {nm cm nr cr : Nat} {ov : Value} {s : GS} (h : WA wI w f wb mb am nm cm ar nr cr ov s) (hb : Below w.heap.size w w') : WA wI w' f wb mb am nm cm ar nr cr ov s :=
  ⟨(hb.block _ (Array.getElem?_eq_some_iff.1 h.blk).1).trans h.blk, h.map.blk (hb.block _ h.map.lt), own_keep3 h.ord hb, h.ge, h.sep, h.old.trans (hb.mono h.old.size), h.nr, h.rb, h.ol⟩
theorem WA.ne {wI w : World} {f wb mb : Nat} {am ar : Option Addr} {nm cm nr cr : Nat} {ov : Value} {s : GS} (h : WA wI w f wb mb am nm cm ar nr cr ov s) : mb ≠ wb := fun e => h.map.no_cells (by rw [e]; exact h.blk)
theorem box100 {w : World} {a : Nat} {v0 v1 v2 v3 v4 v5 v6 v7 : Value} (hb : w.heap[a]? = some (.cells [v0, v1, v2, v3, v4, v5, v6, v7].toArray 100 (0, 0))) :
    w.cell? ⟨a, 0, none⟩ = some v0 ∧ w.cell? ⟨a, 1, none⟩ = some v1 ∧ w.cell? ⟨a, 2, none⟩ = some v2 ∧ w.cell? ⟨a, 3, none⟩ = some v3 ∧ w.cell? ⟨a, 4, none⟩ = some v4 ∧ w.cell? ⟨a, 5, none⟩ = some v5 ∧ w.cell? ⟨a, 6, none⟩ = some v6 ∧ w.cell? ⟨a, 7, none⟩ = some v7 ∧ (∀ i, w.frozen? ⟨a, i, none⟩ = false) :=
  ⟨cell_of hb 0, cell_of hb 1, cell_of hb 2, cell_of hb 3, cell_of hb 4, cell_of hb 5, cell_of hb 6, cell_of hb 7, fun i => free_of hb i⟩
section
variable {w : World} {B N f : Nat} {c : Cn} {T : Tr} {F : Nat → Prop} {s : Bz}
set_option maxRecDepth 100000 in
set_option maxHeartbeats 4000000 in
theorem thereG_any (hF : Fs w B N f c T F) (hs : Nm s) (b : Bool) (hb : thF T s = b) (wb : Nat) (hlt : wb < w.heap.size) (q2 : w.cell? ⟨wb, 2, none⟩ = some (.pointer (some ⟨f, 0, none⟩))) (q3 : w.cell? ⟨wb, 3, none⟩ = some (.string ⟨#[47]⟩)) :
    Calls Tryd.prog 83 #[.pointer (some ⟨wb, 0, none⟩), .string (nameB s)] w fun e w' => e = .returned (.bool b) ∧ Below w.heap.size w w' := by
  have HA := Lib.hid (AbsN_any s hs w)
  obtain ⟨k, hk⟩ : ∃ k, kdF T s = k := ⟨_, rfl⟩
  have HK := Lib.hid (fun (w' : World) (hb : Below w.heap.size w w') => Kind_any (hF.below hb) hs k hk)
  have hkb : (k != 0) = b := by
    rw [← hk, ← hb]
    unfold kdF thF
    cases T [s] with
    | none => rfl
    | some n => cases h : n.file <;> simp [h]
  obtain ⟨nb, hnb⟩ : ∃ nb, nameB s = nb := ⟨_, rfl⟩
  obtain ⟨pb, hpb⟩ : ∃ pb, pathB s = pb := ⟨_, rfl⟩
  rw [hnb] at HA ⊢
  rw [hpb] at HA HK
  clear hF hs hb hk hnb hpb
  go_enter Tryd.func83, Tryd.ntmps83
  go_wp2_with (first
    | (go_at_call 64; refine HA.out.mono ?_; rintro e w1 ⟨rfl, h1⟩; have H1 := Lib.hid h1; have p2 := (h1.cell (p := ⟨wb, 2, none⟩) hlt).trans q2; clear h1; simp only [])
    | (go_at_call 88; refine (HK.out _ H1.out).mono ?_; rintro e w2 ⟨rfl, h2⟩; have H2 := Lib.hid h2; clear h2; simp only []))
  go_ret
  exact ⟨rfl, below_trans H1.out H2.out⟩
end
end Go.Proofs.YtjagnihkpgbjeaaDoor
