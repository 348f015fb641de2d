import Derived.Test.YtkdacdbmlgffgaaC
import Derived.Test.YtkdacdbmlgffgaaE
import Derived.Lib.Overlaps
import Derived.Lib.AppendZerosOnto
import Derived.Shelf.RegionOpenPlain
import Derived.Laws.Externs
namespace Go.Proofs.Ytkdacdbmlgffgaa
open Go.RowKit
set_option linter.unusedVariables false

theorem info54 : (Try.prog.info? 54).map (fun i => (i.zero, i.size, i.bytes)) = some (some (.agg #[.string ⟨#[]⟩, .string ⟨#[]⟩]), 2, 32) := by kernel_rfl
def pc2 (p : Pr) : List Value := [.string p.n, .string p.v]
theorem pcells_pc (p : Pr) : pcells [p] = pc2 p := rfl
/-- One pair in a block of its own, as a call's variadic argument lies. -/
structure One (w : World) (b : Nat) (p : Pr) : Prop where
  blk : w.heap[b]? = some (.cells #[.string p.n, .string p.v] 54 (0, 0))
theorem One.cells {w : World} {b : Nat} {p : Pr} (h : One w b p) : ∀ j u, (pc2 p)[j]? = some u → w.cell? ((⟨b, 0, none⟩ : Addr).add j) = some u := by
  intro j u hj
  match j, hj with
  | 0, hj => simp only [pc2] at hj; simp at hj; subst hj; simp [Addr.add, World.cell?, h.blk]
  | 1, hj => simp only [pc2] at hj; simp at hj; subst hj; simp [Addr.add, World.cell?, h.blk]
  | (j + 2), hj => simp [pc2] at hj
/-- What an insertion leaves. -/
def Insd (B : Nat) (v : Value) (L : List Pr) (w : World) (e : Ending) (w' : World) : Prop :=
  ∃ v', e = .returned v' ∧ Row w' B v' L ∧ Only (fun i => v.ownBlock = some i) w w' ∧ (v'.ownBlock = v.ownBlock ∨ ∀ j, v'.ownBlock = some j → w.heap.size ≤ j)

theorem append_pair (w : World) (B : Nat) (v : Value) (L : List Pr) (hL : L.length ≤ 100000) (hR : Row w B v L) (hB : B ≤ w.heap.size) (vb c : Nat) (p : Pr) (h1 : One w vb p) (ty : TypeId) :
    ∃ v' w', (Builtin.append_ #[24, 24] ty #[v, .slice (some ⟨vb, 0, none⟩) 1 c]).run Try.prog w = .ok v' w' ∧ Row w' B v' (L ++ [p]) ∧ w.grownBy w' v.ownBlock ∧ (v'.ownBlock = v.ownBlock ∨ v'.ownBlock = some w.heap.size) := by
  obtain ⟨i0, hi, hz0, hz1, hz2⟩ := info_parts info54
  obtain ⟨v', w', h2, h3, h4, h5⟩ := run_append_at (P := Try.prog) w B 24 ty 54 i0 _ 2 32 Try.underlying24 hi hz0 hz1 hz2 rfl (by decide) v L.length (pcells L) hR ⟨vb, 0, none⟩ 1 c (pc2 p) rfl h1.cells
    (by intro u hu; simp [pc2] at hu; rcases hu with rfl | rfl <;> rfl) (by unfold maxLen; omega) (by omega) hB (by decide)
  refine ⟨v', w', h2, ?_, h4, h5⟩
  unfold Row
  rw [pcells_app, List.length_append]
  exact h3
set_option maxRecDepth 100000 in
set_option maxHeartbeats 4000000 in
theorem Insert_end (w : World) (B : Nat) (v : Value) (L : List Pr) (hL : L.length ≤ 100000) (hR : Row w B v L) (hB : B ≤ w.heap.size) (vb c : Nat) (p : Pr) (h1 : One w vb p) :
    Calls Try.prog 23 #[v, .int .i64 L.length, .slice (some ⟨vb, 0, none⟩) 1 c] w (Insd B v (L ++ [p]) w) := by
  have H2 := Lib.hid (append_pair w B v L hL hR hB vb c p h1)
  have hl1 : (L.length : Int) ≤ 100000 := by omega
  have hl0 : (0 : Int) ≤ (L.length : Int) := by omega
  rcases hR.form with ⟨rfl, rfl⟩ | ⟨b, cap, rfl, hb1, hb2, hcap, hcm, hcells, hfz⟩
  · clear hR hL h1
    go_enter Try.func23, Try.ntmps23
    obtain ⟨v', w', hr, h3, h4, h5⟩ := H2.out 24
    have H3 := Lib.hid h3
    have H4 := Lib.hid h4
    have H5 := Lib.hid h5
    clear h3 h4 h5
    go_wp2_with (at_builtin; refine wpList_run_append _ rfl _ _ 24 24 rfl _ _ rfl rfl hr ?_)
    go_ret
    exact ⟨v', rfl, H3.out, Only.of_grown H4.out (by intro k hk; cases hk), .inr fun j hj => by rcases H5.out with e | e <;> rw [e] at hj <;> cases hj; exact Nat.le_refl _⟩
  · clear hR hL h1 hcells hfz
    have hcapI : (L.length : Int) ≤ (cap : Int) := by omega
    unfold maxLen at hcm
    have hcm' : (cap : Int) ≤ 9223372036854775807 := by omega
    obtain ⟨v', w', hr, h3, h4, h5⟩ := H2.out 24
    have H3 := Lib.hid h3
    have H4 := Lib.hid h4
    have H5 := Lib.hid h5
    clear h3 h4 h5
    by_cases hc : cap = L.length
    all_goals
      go_enter Try.func23, Try.ntmps23
      go_wp2_with (at_builtin; refine wpList_run_append _ rfl _ _ 24 24 rfl _ _ rfl rfl hr ?_)
      go_ret
      exact ⟨v', rfl, H3.out, Only.of_grown H4.out (fun k hk => hk), by rcases H5.out with e | e; exact .inl e; exact .inr fun j hj => by rw [e] at hj; cases hj; exact Nat.le_refl _⟩
end Go.Proofs.Ytkdacdbmlgffgaa
