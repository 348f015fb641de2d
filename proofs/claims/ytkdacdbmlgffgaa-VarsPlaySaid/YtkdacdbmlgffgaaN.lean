import Derived.Test.YtkdacdbmlgffgaaM
import Derived.Deep.SlicePairs
import Derived.ChangeArms
namespace Go.Proofs.Ytkdacdbmlgffgaa
open Go.RowKit Go.ChangeShapes Go.WideShapes
set_option linter.unusedVariables false

/-- A slice of structs, opened field by field. -/
theorem open_structs {H : Type} {enc : TypeId × Value → H} {P : Program} {w : World} {base : Nat} {spare : Nat → Bool} {held : Bool} {t e : TypeId} {fs : Array Field} {fuel sz : Nat} {a0 : Option Addr} {len cap : Nat} {x : DataW H × List MemPlace}
    (ht : P.underlying t = some (.slice e)) (he : P.underlying e = some (.struct fs)) (hc : P.cellsOf e = sz) (h : DataW.trod enc P w base spare held fuel t [.slice a0 len cap] = some x) :
    (a0 = none ∧ len = 0 ∧ cap = 0) ∨ ∃ a, a0 = some a ∧ len ≤ cap ∧ cap ≤ maxLen ∧ ∀ i, i < len → ∀ (j : Nat) (f : Field), fs[j]? = some f →
      ∃ vs y n, DataW.trod enc P w base spare held n f.type vs = some y ∧ ∀ q, q < P.cellsOf f.type → f.offset + q < sz → w.cell? (a.add (i * sz + (f.offset + q))) = vs[q]? := by
  rcases Go.Deep.open_slice ht h with ⟨h0, _⟩ | ⟨a, len', cap', m, n, D, Pl, h0, hb, hl, hm, hmm, rfl, hx⟩
  · simp at h0; exact .inl h0
  right
  simp at h0
  obtain ⟨rfl, rfl, rfl⟩ := h0
  refine ⟨a, rfl, hl, hm, fun i hi j f hf => ?_⟩
  have him : i < m := by rw [hmm]; split <;> omega
  obtain ⟨cs', h1, h2⟩ := hx i him
  rw [hc] at h1
  obtain ⟨_, hlen, hcell⟩ := World.cells?_some h1
  obtain ⟨xs, k, hk, hxy, _, hxl, hff⟩ := DataW.trod_struct he h2
  have g := hff j f hf
  have hjl : j < fs.size := (Array.getElem?_eq_some_iff.1 hf).1
  rw [List.getElem?_eq_getElem (by omega)] at g
  refine ⟨_, _, _, g, fun q hq hqs => ?_⟩
  have e0 := hcell (f.offset + q) (by omega)
  rw [Go.Deep.add_add] at e0
  rw [List.getElem?_take, if_pos hq, List.getElem?_drop]
  exact e0
theorem add_flat (b off k : Nat) : (⟨b, off, none⟩ : Addr).add k = ⟨b, off + k, none⟩ := by unfold Addr.add; split <;> simp_all
structure Act3 where
  o : Bool
  n : ByteArray
  v : ByteArray
instance : Inhabited Act3 := ⟨⟨false, ⟨#[]⟩, ⟨#[]⟩⟩⟩
theorem act_form : ∃ f0 f1 f2 : Field, Try.prog.underlying 31 = some (.struct #[f0, f1, f2]) ∧ f0.offset = 0 ∧ f1.offset = 1 ∧ f2.offset = 2 ∧ f0.type = 4 ∧ f1.type = 9 ∧ f2.type = 9 := by
  have h : (Try.prog.underlying 31).map (fun t => match t with | .struct fs => some (fs.toList.map fun f => (f.type, f.offset)) | _ => none) = some (some [(4, 0), (9, 1), (9, 2)]) := by kernel_rfl
  obtain ⟨t, ht, h2⟩ := Option.map_eq_some_iff.1 h
  rw [ht]
  cases t <;> simp at h2
  rename_i fs
  obtain ⟨l⟩ := fs
  match l, h2 with
  | [f0, f1, f2], h2 =>
    simp at h2
    exact ⟨f0, f1, f2, rfl, h2.1.2, h2.2.1.2, h2.2.2.2, h2.1.1, h2.2.1.1, h2.2.2.1⟩
/-- The calls that came in. -/
structure Acts (w : World) (v : Value) (l : List Act3) : Prop where
  at' : ∃ a c, v = .slice a l.length c ∧ ∀ k (h : k < l.length), ∃ b off, a = some ⟨b, off, none⟩ ∧ b < w.heap.size ∧ w.cell? ⟨b, off + k * 3, none⟩ = some (.bool l[k].o) ∧ w.cell? ⟨b, off + k * 3 + 1, none⟩ = some (.string l[k].n) ∧ w.cell? ⟨b, off + k * 3 + 2, none⟩ = some (.string l[k].v) ∧ l[k].n.size ≤ maxLen ∧ l[k].v.size ≤ maxLen
  len : l.length ≤ maxLen
theorem Acts.below {w w' : World} {v : Value} {l : List Act3} (h : Acts w v l) (hB : Below w.heap.size w w') : Acts w' v l := by
  obtain ⟨⟨a, c, h1, h2⟩, h3⟩ := h
  refine ⟨⟨a, c, h1, fun k hk => ?_⟩, h3⟩
  obtain ⟨b, off, e1, e2, e3, e4, e5, e6⟩ := h2 k hk
  have hs := hB.size
  exact ⟨b, off, e1, by omega, by rw [hB.cell (p := ⟨b, _, none⟩) e2]; exact e3, by rw [hB.cell (p := ⟨b, _, none⟩) e2]; exact e4, by rw [hB.cell (p := ⟨b, _, none⟩) e2]; exact e5, e6⟩
theorem open_acts {H : Type} {enc : TypeId × Value → H} {base : Nat} {W : World} {v : Value} {d : DataW H} {p : List MemPlace}
    (hv : Value.okWide Try.prog W .any base 22 v) (h : DataW.Trod enc Try.prog W 0 (fun _ => true) true 22 v d p) : ∃ l, Acts W v l := by
  obtain ⟨a0, len, cap, rfl⟩ := okWide_slice Try.underlying22 hv
  obtain ⟨fuel, hf⟩ := h
  obtain ⟨f0, f1, f2, hu, o0, o1, o2, t0, t1, t2⟩ := act_form
  have hf2 : DataW.trod enc Try.prog W 0 (fun _ => true) true fuel 22 [.slice a0 len cap] = some (d, p) := hf
  have c4 : Try.prog.cellsOf 4 = 1 := by kernel_rfl
  have c9 : Try.prog.cellsOf 9 = 1 := by kernel_rfl
  have u4 : Try.prog.underlying 4 = some .bool := by kernel_rfl
  have u9 : Try.prog.underlying 9 = some .string := by kernel_rfl
  rcases open_structs Try.underlying22 hu (show Try.prog.cellsOf 31 = 3 by kernel_rfl) hf2 with ⟨rfl, rfl, rfl⟩ | ⟨a, rfl, hl, hm, hx⟩
  · exact ⟨[], ⟨none, 0, rfl, fun k hk => absurd hk (by simp)⟩, by simp⟩
  · have each : ∀ i, i < len → ∃ q : Act3, W.cell? (a.add (i * 3)) = some (.bool q.o) ∧ W.cell? (a.add (i * 3 + 1)) = some (.string q.n) ∧ W.cell? (a.add (i * 3 + 2)) = some (.string q.v) ∧ q.n.size ≤ maxLen ∧ q.v.size ≤ maxLen := by
      intro i hi
      obtain ⟨vs0, y0, n0, g0, k0⟩ := hx i hi 0 f0 rfl
      obtain ⟨vs1, y1, n1, g1, k1⟩ := hx i hi 1 f1 rfl
      obtain ⟨vs2, y2, n2, g2, k2⟩ := hx i hi 2 f2 rfl
      rw [t0] at g0 k0
      rw [t1] at g1 k1
      rw [t2] at g2 k2
      obtain ⟨b, rfl, _⟩ := DataW.trod_bool u4 g0
      obtain ⟨s1, rfl, _, z1⟩ := DataW.trod_string u9 g1
      obtain ⟨s2, rfl, _, z2⟩ := DataW.trod_string u9 g2
      have r0 := k0 0 (by rw [c4]; omega) (by omega)
      have r1 := k1 0 (by rw [c9]; omega) (by omega)
      have r2 := k2 0 (by rw [c9]; omega) (by omega)
      rw [o0] at r0
      rw [o1] at r1
      rw [o2] at r2
      exact ⟨⟨b, s1, s2⟩, r0, r1, r2, z1, z2⟩
    obtain ⟨q, hq⟩ := Go.Deep.choose_lt each
    have hlen : ((List.range len).map q).length = len := by simp
    refine ⟨(List.range len).map q, ⟨some a, cap, by rw [hlen], fun k hk => ?_⟩, by rw [hlen]; omega⟩
    rw [hlen] at hk
    obtain ⟨h1, h2, h3, h4, h5⟩ := hq k hk
    have hb : a.block < W.heap.size := by
      have := World.block_lt_of_cell? W _ h1
      revert this
      unfold Addr.add
      split <;> exact id
    have hs : a.spot = none := World.cell?_spot (a := a) (by simpa [Addr.add] using (hq 0 (by omega)).1)
    obtain ⟨b, off, sp⟩ := a
    simp only at hs
    subst hs
    rw [add_flat] at h1 h2 h3
    have e : ((List.range len).map q)[k]'(by rw [hlen]; exact hk) = q k := by simp
    rw [e]
    exact ⟨b, off, rfl, hb, h1, by rw [Nat.add_assoc]; exact h2, by rw [Nat.add_assoc]; exact h3, h4, h5⟩
end Go.Proofs.Ytkdacdbmlgffgaa
