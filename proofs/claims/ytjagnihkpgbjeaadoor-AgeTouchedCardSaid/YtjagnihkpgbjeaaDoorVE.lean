import Derived.Test.YtjagnihkpgbjeaaDoorVD
import Derived.RegionTactic
import Derived.Deep.QuietTactic
import Derived.Deep.LoopGhost
import Derived.BigQuiet
import Derived.WalkMore
import Derived.Handy
import Derived.BigFrame
import Derived.ChangeArms
import Derived.Carry
namespace Go.Proofs.YtjagnihkpgbjeaaDoor
open Go.RowKit Go.Maps Go.ChangeMaps
set_option linter.unusedVariables false
section
variable {w : World} {a : Nat} {cs : List Value} {ty : TypeId}
theorem cell_of (hb : w.heap[a]? = some (.cells cs.toArray ty (0, 0))) (i : Nat) : w.cell? ⟨a, i, none⟩ = cs[i]? := by
  simp only [World.cell?, hb]; simp
theorem free_of (hb : w.heap[a]? = some (.cells cs.toArray ty (0, 0))) (i : Nat) : w.frozen? ⟨a, i, none⟩ = false := by
  simp [World.frozen?, hb]
theorem set_of (hb : w.heap[a]? = some (.cells cs.toArray ty (0, 0))) (i : Nat) (v : Value) : (w.setCell ⟨a, i, none⟩ v).heap[a]? = some (.cells (cs.set i v).toArray ty (0, 0)) := by
  have h1 : (w.heap.modify a fun | .cells c elem frozen => Obj.cells (if (none : Option Nat).isSome then c else c.setIfInBounds i v) elem frozen | o => o)[a]? = some (.cells (cs.set i v).toArray ty (0, 0)) := by
    rw [Array.getElem?_modify, if_pos rfl, hb]; simp
  exact h1
theorem blk_lt (hb : w.heap[a]? = some (.cells cs.toArray ty (0, 0))) : a < w.heap.size := (Array.getElem?_eq_some_iff.1 hb).1
end
@[go_sem] theorem eqlMap45 (m : Option Nat) (w : World) : (binOp .eql 67 (.map m) (.map none)).run Tryd.prog w = .ok (.bool m.isNone) w := run_eql_map_nil w 67 9 72 m Tryd.underlying67
theorem addK (b k : Nat) : (⟨b, 0, none⟩ : Addr).add k = ⟨b, k, none⟩ := by unfold Addr.add; split <;> simp_all
def PutP (a kb N : Nat) (cs : List Value) (ty : TypeId) (m : Option Nat) (g : Bz → Option Nat) (s : ByteArray) (w : World) (e : Ending) (w' : World) : Prop :=
  e = .returned (.tuple #[]) ∧ ∃ m', w'.heap[a]? = some (.cells (cs.set 3 (.map m')).toArray ty (0, 0)) ∧ Kids w' (N + 1) m' (fun x => if x = s.data.toList then some kb else g x) ∧ Only (fun j => j = a ∨ m = some j) w w' ∧ ((m' = m ∧ m.isSome) ∨ (m = none ∧ m' = some w.heap.size))
set_option maxRecDepth 100000 in
set_option maxHeartbeats 2000000 in
theorem put_any (a kb N : Nat) (cs : List Value) (ty : TypeId) (m : Option Nat) (g : Bz → Option Nat) (s : ByteArray) (w : World) (hb : w.heap[a]? = some (.cells cs.toArray ty (0, 0))) (hc : cs[3]? = some (.map m)) (hk : Kids w N m g) (hs : s.size ≤ maxLen) (hN : N < maxLen) :
    Calls Tryd.prog 67 #[.pointer (some ⟨a, 0, none⟩), .string s, .pointer (some ⟨kb, 0, none⟩)] w (PutP a kb N cs ty m g s w) := by
  have hkey := Go.WideMaps.keyOf_string_mk Tryd.underlying9 hs
  have hval : ptrR (.pointer (some ⟨kb, 0, none⟩)) = some (.lit (.int .i64 kb), []) := rfl
  have HB := Lib.hid hb
  have HK := Lib.hid hk
  have hcell : w.cell? ⟨a, 3, none⟩ = some (.map m) := (cell_of hb 3).trans hc
  have hfree := free_of hb 3
  obtain ⟨Q', hQ⟩ : ∃ Q', PutP a kb N cs ty m g s w = Q' := ⟨_, rfl⟩
  rw [hQ]
  have HQ := Lib.hid hQ
  have HC := Lib.hid hc
  clear hb hk hQ hc
  cases m with
  | none =>
    have hmm := @run_makeMap Tryd.prog
    obtain ⟨hmade, hg0⟩ := kids_made w N g (fun k => HK.out.no rfl k)
    have HG := Lib.hid hg0
    have hlt := blk_lt HB.out
    have hne : w.heap.size ≠ a := by omega
    obtain ⟨w0, hw0⟩ : ∃ w0, (w.setCell ⟨a, 3, none⟩ (.map (some w.heap.size))).alloc (.map #[] 0) = w0 := ⟨_, rfl⟩
    have hown1 : w0.ownsMap Tryd.prog 9 ptrR w.heap.size 0 (.map []) := by
      have := World.ownsMap_made (w.setCell ⟨a, 3, none⟩ (.map (some w.heap.size))) Tryd.prog 9 ptrR
      rw [hw0] at this
      simpa using this
    have hb0 : Hid (w0.heap[a]? = some (.cells (cs.set 3 (.map (some w.heap.size))).toArray ty (0, 0))) := by
      show w0.heap[a]? = _
      rw [← hw0, (MapKept.heap_alloc _ _).2 a (by simpa using hlt)]
      exact set_of HB.out 3 _
    have ho0 : Hid (Only (fun j => j = a) w w0) := by
      show Only (fun j => j = a) w w0
      rw [← hw0]
      exact ((Only.refl (fun j => j = a) w).set (.inl rfl) 3 _).trans (Only.of_grown (S := fun j => j = a) (World.grownBy_alloc _ _ none) (fun k e => by cases e)) (fun _ h => h) (fun _ _ h => h)
    have HW := Lib.hid hw0
    clear hmade hg0 hw0
    go_enter Tryd.func67, Tryd.ntmps67
    go_wp2_with (at_mapUpdate; rw [HW.out]; refine wpList_mapUpdate_own _ rfl _ _ _ 67 rfl 9 72 keyedS Tryd.underlying67 _ w.heap.size 0 (.map []) rfl hown1 (by omega) _ _ (.string s.data.toList) rfl rfl hkey (.lit (.int .i64 kb)) [] hval ?_; intro w1 h1 g1)
    go_end0
    rw [← HQ.out]
    refine ⟨rfl, some w.heap.size, (g1.block a (blk_lt hb0.out) (by simpa using hne.symm)).trans hb0.out, Kids.of_put h1 (by omega) ⟨_, rfl⟩ HG.out (fun x => rfl), ?_, .inr ⟨rfl, rfl⟩⟩
    exact (ho0.out.trans (Only.of_grown g1 (S := fun j => j = w.heap.size) (fun k e => by cases e; rfl)) (fun i h => .inl h) (fun i hi h => by omega))
  | some b =>
    obtain ⟨nn, D, hnn, hown1, hg0⟩ := HK.out.yes b rfl
    have HG := Lib.hid hg0
    have hne : b ≠ a := by
      intro e
      obtain ⟨es, clock, h2, _⟩ := hown1
      have h3 := HB.out
      rw [← e, h2] at h3
      cases h3
    have hn1 : nn < maxLen := by omega
    clear hg0
    go_enter Tryd.func67, Tryd.ntmps67
    go_wp2_with (at_mapUpdate; refine wpList_mapUpdate_own _ rfl _ _ _ 67 rfl 9 72 keyedS Tryd.underlying67 _ b nn D rfl hown1 hn1 _ _ (.string s.data.toList) rfl rfl hkey (.lit (.int .i64 kb)) [] hval ?_; intro w1 h1 g1)
    go_end0
    rw [← HQ.out]
    refine ⟨rfl, some b, ?_, Kids.of_put h1 (by omega) (hown1.isMap) HG.out (fun x => rfl), Only.of_grown g1 (fun k e => by cases e; exact .inr rfl), .inl ⟨rfl, rfl⟩⟩
    rw [g1.block a (blk_lt HB.out) (by simpa using hne.symm), HB.out]
    congr 3
    have h4 := HC.out
    refine List.ext_getElem? fun i => ?_
    rw [List.getElem?_set]
    by_cases hi : 3 = i
    · subst hi
      rw [if_pos rfl, h4]
      have : 3 < cs.length := by
        by_cases hl : 3 < cs.length
        · exact hl
        · rw [List.getElem?_eq_none (by omega)] at h4; cases h4
      simp [this]
    · rw [if_neg hi]
end Go.Proofs.YtjagnihkpgbjeaaDoor
