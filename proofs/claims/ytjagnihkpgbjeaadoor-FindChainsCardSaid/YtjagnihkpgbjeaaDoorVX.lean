import Derived.Test.YtjagnihkpgbjeaaDoorVT
import Derived.Deep.AppendLies
import Derived.Deep.AppendSrc
import Derived.Deep.SlicePairs
import Derived.ChangeArms
namespace Go.Proofs.YtjagnihkpgbjeaaDoor
open Go.RowKit Go.ChangeShapes Go.WideShapes
set_option linter.unusedVariables false
/-- Strings, to be read behind v. -/
structure Txt (w : World) (v : Value) (l : List ByteArray) : Prop where
  form : ∃ a c, v = .slice a l.length c ∧ ∀ i (h : i < l.length), ∃ b off, a = some ⟨b, off, none⟩ ∧ b < w.heap.size ∧ w.cell? ⟨b, off + i, none⟩ = some (.string l[i])
theorem Txt.below {w w' : World} {v : Value} {l : List ByteArray} (h : Txt w v l) (hb : Below w.heap.size w w') : Txt w' v l := by
  obtain ⟨a, c, h1, h2⟩ := h.form
  refine ⟨a, c, h1, fun i hi => ?_⟩
  obtain ⟨b, off, e1, e2, e3⟩ := h2 i hi
  exact ⟨b, off, e1, Nat.lt_of_lt_of_le e2 hb.size, (hb.cell (p := ⟨b, _, none⟩) e2).trans e3⟩
set_option maxRecDepth 10000 in
theorem open_strs {H : Type} {enc : TypeId × Value → H} {base : Nat} {W : World} {v : Value} {d : DataW H} {p : List MemPlace}
    (hv : Value.okWide Tryd.prog W .any base 29 v) (h : DataW.Trod enc Tryd.prog W 0 (fun _ => true) true 29 v d p) : ∃ l, Txt W v l ∧ l.length ≤ maxLen ∧ ∀ x ∈ l, x.size ≤ maxLen := by
  obtain ⟨a0, len, cap, rfl⟩ := okWide_slice Tryd.underlying29 hv
  obtain ⟨fuel, hf⟩ := h
  have hf2 : DataW.trod enc Tryd.prog W 0 (fun _ => true) true fuel 29 [.slice a0 len cap] = some (d, p) := hf
  have c9 : Tryd.prog.cellsOf 9 = 1 := by kernel_rfl
  have u9 : Tryd.prog.underlying 9 = some .string := by kernel_rfl
  rcases Go.Deep.open_slice Tryd.underlying29 hf2 with ⟨h0, _⟩ | ⟨a, len', cap', m, n, D, Pl, h0, hb, hl, hm, hmm, _, hx⟩
  · simp at h0
    obtain ⟨rfl, rfl, rfl⟩ := h0
    exact ⟨[], ⟨none, 0, rfl, fun i hi => absurd hi (by simp)⟩, by simp, by simp⟩
  · simp at h0
    obtain ⟨rfl, rfl, rfl⟩ := h0
    have each : ∀ i, i < len → ∃ q : ByteArray, W.cell? (a.add i) = some (.string q) ∧ q.size ≤ maxLen := by
      intro i hi
      have him : i < m := by rw [hmm]; split <;> omega
      obtain ⟨cs', h1, h2⟩ := hx i him
      rw [c9, Nat.mul_one] at h1
      obtain ⟨_, hlen, hcell⟩ := World.cells?_some h1
      match cs', hlen with
      | [u], _ =>
        obtain ⟨s1, e1, _, z1⟩ := DataW.trod_string u9 h2
        have := hcell 0 (by omega)
        simp at e1
        subst e1
        exact ⟨s1, by simpa [Addr.add] using this, z1⟩
    obtain ⟨q, hq⟩ := Go.Deep.choose_lt each
    have hlen : ((List.range len).map q).length = len := by simp
    refine ⟨(List.range len).map q, ⟨some a, cap, by rw [hlen], fun k hk => ?_⟩, by rw [hlen]; omega, fun x hx => ?_⟩
    · rw [hlen] at hk
      obtain ⟨h1, h2⟩ := hq k hk
      have hb : a.block < W.heap.size := by
        have := World.block_lt_of_cell? W _ h1
        revert this
        unfold Addr.add
        split <;> exact id
      have hs : a.spot = none := World.cell?_spot (a := a) (by simpa [Addr.add] using (hq 0 (by omega)).1)
      obtain ⟨b, off, sp⟩ := a
      simp only at hs
      subst hs
      rw [addn] at h1
      have e : ((List.range len).map q)[k]'(by rw [hlen]; exact hk) = q k := by simp
      rw [e]
      exact ⟨b, off, rfl, hb, h1⟩
    · obtain ⟨i, hi, rfl⟩ := List.mem_map.1 hx
      exact (hq i (List.mem_range.1 hi)).2
/-- Bools, to be read behind v. -/
structure Bls (w : World) (v : Value) (l : List Bool) : Prop where
  form : ∃ a c, v = .slice a l.length c ∧ ∀ i (h : i < l.length), ∃ b off, a = some ⟨b, off, none⟩ ∧ b < w.heap.size ∧ w.cell? ⟨b, off + i, none⟩ = some (.bool l[i])
theorem Bls.below {w w' : World} {v : Value} {l : List Bool} (h : Bls w v l) (hb : Below w.heap.size w w') : Bls w' v l := by
  obtain ⟨a, c, h1, h2⟩ := h.form
  refine ⟨a, c, h1, fun i hi => ?_⟩
  obtain ⟨b, off, e1, e2, e3⟩ := h2 i hi
  exact ⟨b, off, e1, Nat.lt_of_lt_of_le e2 hb.size, (hb.cell (p := ⟨b, _, none⟩) e2).trans e3⟩
set_option maxRecDepth 10000 in
theorem open_bools {H : Type} {enc : TypeId × Value → H} {base : Nat} {W : World} {v : Value} {d : DataW H} {p : List MemPlace}
    (hv : Value.okWide Tryd.prog W .any base 41 v) (h : DataW.Trod enc Tryd.prog W 0 (fun _ => true) true 41 v d p) : ∃ l, Bls W v l ∧ l.length ≤ maxLen := by
  obtain ⟨a0, len, cap, rfl⟩ := okWide_slice Tryd.underlying41 hv
  obtain ⟨fuel, hf⟩ := h
  have hf2 : DataW.trod enc Tryd.prog W 0 (fun _ => true) true fuel 41 [.slice a0 len cap] = some (d, p) := hf
  have c4 : Tryd.prog.cellsOf 4 = 1 := by kernel_rfl
  have u4 : Tryd.prog.underlying 4 = some .bool := by kernel_rfl
  rcases Go.Deep.open_slice Tryd.underlying41 hf2 with ⟨h0, _⟩ | ⟨a, len', cap', m, n, D, Pl, h0, hb, hl, hm, hmm, _, hx⟩
  · simp at h0
    obtain ⟨rfl, rfl, rfl⟩ := h0
    exact ⟨[], ⟨none, 0, rfl, fun i hi => absurd hi (by simp)⟩, by simp⟩
  · simp at h0
    obtain ⟨rfl, rfl, rfl⟩ := h0
    have each : ∀ i, i < len → ∃ q : Bool, W.cell? (a.add i) = some (.bool q) := by
      intro i hi
      have him : i < m := by rw [hmm]; split <;> omega
      obtain ⟨cs', h1, h2⟩ := hx i him
      rw [c4, Nat.mul_one] at h1
      obtain ⟨_, hlen, hcell⟩ := World.cells?_some h1
      match cs', hlen with
      | [u], _ =>
        obtain ⟨s1, e1, _⟩ := DataW.trod_bool u4 h2
        have := hcell 0 (by omega)
        simp at e1
        subst e1
        exact ⟨s1, by simpa [Addr.add] using this⟩
    obtain ⟨q, hq⟩ := Go.Deep.choose_lt each
    have hlen : ((List.range len).map q).length = len := by simp
    refine ⟨(List.range len).map q, ⟨some a, cap, by rw [hlen], fun k hk => ?_⟩, by rw [hlen]; omega⟩
    · rw [hlen] at hk
      have h1 := hq k hk
      have hb : a.block < W.heap.size := by
        have := World.block_lt_of_cell? W _ h1
        revert this
        unfold Addr.add
        split <;> exact id
      have hs : a.spot = none := World.cell?_spot (a := a) (by simpa [Addr.add] using hq 0 (by omega))
      obtain ⟨b, off, sp⟩ := a
      simp only at hs
      subst hs
      rw [addn] at h1
      have e : ((List.range len).map q)[k]'(by rw [hlen]; exact hk) = q k := by simp
      rw [e]
      exact ⟨b, off, rfl, hb, h1⟩
end Go.Proofs.YtjagnihkpgbjeaaDoor
