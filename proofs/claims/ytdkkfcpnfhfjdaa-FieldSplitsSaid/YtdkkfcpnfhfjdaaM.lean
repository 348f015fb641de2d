import Derived.Test.YtdkkfcpnfhfjdaaJ
namespace Go.Proofs.Ytdkkfcpnfhfjdaa
open Go.RowKit Go.ChangeShapes Go.WideShapes
set_option linter.unusedVariables false

/-- A slice of structs, opened field by field. -/
theorem open_structs {H : Type} {enc : TypeId × Value → H} {P : Program} {w : World} {base : Nat} {spare : Nat → Bool} {held : Bool} {t e : TypeId} {fs : Array Field} {fuel sz : Nat} {a0 : Option Addr} {len cap : Nat} {x : DataW H × List MemPlace}
    (ht : P.underlying t = some (.slice e)) (he : P.underlying e = some (.struct fs)) (hc : P.cellsOf e = sz) (h : DataW.trod enc P w base spare held fuel t [.slice a0 len cap] = some x) :
    (a0 = none ∧ len = 0 ∧ cap = 0) ∨ ∃ a, a0 = some a ∧ len ≤ cap ∧ cap ≤ maxLen ∧ ∀ i, i < len → ∀ (j : Nat) (f : Field), fs[j]? = some f →
      ∃ vs y n, DataW.trod enc P w base spare held n f.type vs = some y ∧ ∀ q, q < P.cellsOf f.type → f.offset + q < sz → w.cell? (a.add (i * sz + (f.offset + q))) = vs[q]? := by
  rcases Go.Deep.open_slice ht h with ⟨h0, _⟩ | ⟨a, len', cap', m, n, D, Pl, h0, hb, hl, hm, hmm, rfl, hx⟩
  · simp at h0; exact .inl h0
  right
  simp at h0
  obtain ⟨rfl, rfl, rfl⟩ := h0
  refine ⟨a, rfl, hl, hm, fun i hi j f hf => ?_⟩
  have him : i < m := by rw [hmm]; split <;> omega
  obtain ⟨cs', h1, h2⟩ := hx i him
  rw [hc] at h1
  obtain ⟨_, hlen, hcell⟩ := World.cells?_some h1
  obtain ⟨xs, k, hk, hxy, _, hxl, hff⟩ := DataW.trod_struct he h2
  have g := hff j f hf
  have hjl : j < fs.size := (Array.getElem?_eq_some_iff.1 hf).1
  rw [List.getElem?_eq_getElem (by omega)] at g
  refine ⟨_, _, _, g, fun q hq hqs => ?_⟩
  have e0 := hcell (f.offset + q) (by omega)
  rw [Go.Deep.add_add] at e0
  rw [List.getElem?_take, if_pos hq, List.getElem?_drop]
  exact e0
theorem bounds {z : Int} (h : (Lit.int .i64 z).wf = true) : -9223372036854775808 ≤ z ∧ z ≤ 9223372036854775807 := by
  simp [Lit.wf] at h
  have h1 : IntKind.i64.min = -9223372036854775808 := by decide
  have h2 : IntKind.i64.max = 9223372036854775807 := by decide
  omega
/-- A part that came in: whatever it holds. -/
structure RP where
  k : Int
  t : ByteArray
  n : ByteArray
  o : ByteArray
  wa : Option Addr
  wl : Nat
  wc : Nat
  q : Bool
instance : Inhabited RP := ⟨⟨0, ⟨#[]⟩, ⟨#[]⟩, ⟨#[]⟩, none, 0, 0, false⟩⟩
def RP.cs (p : RP) : List Value := [.int .i64 p.k, .string p.t, .string p.n, .string p.o, .slice p.wa p.wl p.wc, .bool p.q]
def RP.fits (p : RP) : Prop := (-9223372036854775808 ≤ p.k ∧ p.k ≤ 9223372036854775807) ∧ p.t.size ≤ maxLen ∧ p.n.size ≤ maxLen ∧ p.o.size ≤ maxLen ∧ p.wl ≤ maxLen
/-- The parts that came in, behind v. -/
structure Rw (w : World) (v : Value) (L : List RP) : Prop where
  form : ∃ a c, v = .slice a L.length c ∧ ∀ i (h : i < L.length), ∃ b off, a = some ⟨b, off, none⟩ ∧ b < w.heap.size ∧ ∀ q u, L[i].cs[q]? = some u → w.cell? ⟨b, off + i * 6 + q, none⟩ = some u
  len : L.length ≤ maxLen
  fit : ∀ p ∈ L, p.fits
  nilc : ∀ n c, v = .slice none n c → c = 0
theorem Rw.below {w w' : World} {v : Value} {L : List RP} (h : Rw w v L) (hb : Below w.heap.size w w') : Rw w' v L := by
  obtain ⟨⟨a, c, h1, h2⟩, h3, h4, h5⟩ := h
  refine ⟨⟨a, c, h1, fun i hi => ?_⟩, h3, h4, h5⟩
  obtain ⟨b, off, e1, e2, e3⟩ := h2 i hi
  exact ⟨b, off, e1, Nat.lt_of_lt_of_le e2 hb.size, fun q u hq => (hb.cell (p := ⟨b, _, none⟩) e2).trans (e3 q u hq)⟩
theorem part_form : ∃ f0 f1 f2 f3 f4 f5 : Field, Try.prog.underlying 31 = some (.struct #[f0, f1, f2, f3, f4, f5]) ∧ (f0.type = 3 ∧ f0.offset = 0) ∧ (f1.type = 9 ∧ f1.offset = 1) ∧ (f2.type = 9 ∧ f2.offset = 2) ∧ (f3.type = 9 ∧ f3.offset = 3) ∧ (f4.type = 22 ∧ f4.offset = 4) ∧ (f5.type = 4 ∧ f5.offset = 5) := by
  have h : (Try.prog.underlying 31).map (fun t => match t with | .struct fs => some (fs.toList.map fun f => (f.type, f.offset)) | _ => none) = some (some [(3, 0), (9, 1), (9, 2), (9, 3), (22, 4), (4, 5)]) := by kernel_rfl
  obtain ⟨t, ht, h2⟩ := Option.map_eq_some_iff.1 h
  rw [ht]
  cases t <;> simp at h2
  rename_i fs
  obtain ⟨l⟩ := fs
  match l, h2 with
  | [f0, f1, f2, f3, f4, f5], h2 =>
    simp at h2
    exact ⟨f0, f1, f2, f3, f4, f5, rfl, h2.1, h2.2.1, h2.2.2.1, h2.2.2.2.1, h2.2.2.2.2.1, h2.2.2.2.2.2⟩
theorem open_parts {H : Type} {enc : TypeId × Value → H} {base : Nat} {W : World} {v : Value} {d : DataW H} {p : List MemPlace}
    (hv : Value.okWide Try.prog W .any base 22 v) (h : DataW.Trod enc Try.prog W 0 (fun _ => true) true 22 v d p) : ∃ l, Rw W v l := by
  obtain ⟨a0, len, cap, rfl⟩ := okWide_slice Try.underlying22 hv
  obtain ⟨fuel, hf⟩ := h
  obtain ⟨f0, f1, f2, f3, f4, f5, hu, ⟨t0, o0⟩, ⟨t1, o1⟩, ⟨t2, o2⟩, ⟨t3, o3⟩, ⟨t4, o4⟩, ⟨t5, o5⟩⟩ := part_form
  have hf2 : DataW.trod enc Try.prog W 0 (fun _ => true) true fuel 22 [.slice a0 len cap] = some (d, p) := hf
  have c3 : Try.prog.cellsOf 3 = 1 := by kernel_rfl
  have c4 : Try.prog.cellsOf 4 = 1 := by kernel_rfl
  have c9 : Try.prog.cellsOf 9 = 1 := by kernel_rfl
  have c22 : Try.prog.cellsOf 22 = 1 := by kernel_rfl
  have u9 : Try.prog.underlying 9 = some .string := by kernel_rfl
  rcases open_structs Try.underlying22 hu (show Try.prog.cellsOf 31 = 6 by kernel_rfl) hf2 with ⟨rfl, rfl, rfl⟩ | ⟨a, rfl, hl, hm, hx⟩
  · exact ⟨[], ⟨none, 0, rfl, fun k hk => absurd hk (by simp)⟩, by simp, by simp, fun n c e => by injection e with _ _ e; exact e.symm⟩
  · have each : ∀ i, i < len → ∃ q : RP, (∀ j u, q.cs[j]? = some u → W.cell? (a.add (i * 6 + j)) = some u) ∧ q.fits := by
      intro i hi
      obtain ⟨vs0, y0, n0, g0, k0⟩ := hx i hi 0 f0 rfl
      obtain ⟨vs1, y1, n1, g1, k1⟩ := hx i hi 1 f1 rfl
      obtain ⟨vs2, y2, n2, g2, k2⟩ := hx i hi 2 f2 rfl
      obtain ⟨vs3, y3, n3, g3, k3⟩ := hx i hi 3 f3 rfl
      obtain ⟨vs4, y4, n4, g4, k4⟩ := hx i hi 4 f4 rfl
      obtain ⟨vs5, y5, n5, g5, k5⟩ := hx i hi 5 f5 rfl
      rw [t0] at g0 k0
      rw [t1] at g1 k1
      rw [t2] at g2 k2
      rw [t3] at g3 k3
      rw [t4] at g4 k4
      rw [t5] at g5 k5
      obtain ⟨x0, rfl, _, z0⟩ := DataW.trod_int Try.underlying3 g0
      obtain ⟨x1, rfl, _, z1⟩ := DataW.trod_string u9 g1
      obtain ⟨x2, rfl, _, z2⟩ := DataW.trod_string u9 g2
      obtain ⟨x3, rfl, _, z3⟩ := DataW.trod_string u9 g3
      obtain ⟨x5, rfl, _⟩ := DataW.trod_bool Try.underlying4 g5
      obtain ⟨wa, wl, wc, rfl, hwl⟩ : ∃ wa wl wc, vs4 = [.slice wa wl wc] ∧ wl ≤ maxLen := by
        rcases Go.Deep.open_slice Try.underlying22 g4 with ⟨h0, _⟩ | ⟨a', len', cap', m, n, D, Pl, h0, hb, hl', hm', _⟩
        · exact ⟨none, 0, 0, h0, by simp⟩
        · exact ⟨some a', len', cap', h0, by omega⟩
      have r0 := k0 0 (by rw [c3]; omega) (by omega)
      have r1 := k1 0 (by rw [c9]; omega) (by omega)
      have r2 := k2 0 (by rw [c9]; omega) (by omega)
      have r3 := k3 0 (by rw [c9]; omega) (by omega)
      have r4 := k4 0 (by rw [c22]; omega) (by omega)
      have r5 := k5 0 (by rw [c4]; omega) (by omega)
      rw [o0] at r0
      rw [o1] at r1
      rw [o2] at r2
      rw [o3] at r3
      rw [o4] at r4
      rw [o5] at r5
      have hz0 : -9223372036854775808 ≤ x0 ∧ x0 ≤ 9223372036854775807 := by
        exact bounds z0
      refine ⟨⟨x0, x1, x2, x3, wa, wl, wc, x5⟩, fun j u hj => ?_, hz0, z1, z2, z3, hwl⟩
      match j, hj with
      | 0, hj => simp [RP.cs] at hj; subst hj; simpa using r0
      | 1, hj => simp [RP.cs] at hj; subst hj; simpa using r1
      | 2, hj => simp [RP.cs] at hj; subst hj; simpa using r2
      | 3, hj => simp [RP.cs] at hj; subst hj; simpa using r3
      | 4, hj => simp [RP.cs] at hj; subst hj; simpa using r4
      | 5, hj => simp [RP.cs] at hj; subst hj; simpa using r5
      | n + 6, hj => simp [RP.cs] at hj
    obtain ⟨q, hq⟩ := Go.Deep.choose_lt each
    have hlen : ((List.range len).map q).length = len := by simp
    refine ⟨(List.range len).map q, ⟨some a, cap, by rw [hlen], fun k hk => ?_⟩, by rw [hlen]; omega, fun x hx => ?_, fun n c e => by injection e with e _ _; cases e⟩
    · rw [hlen] at hk
      obtain ⟨h1, h2⟩ := hq k hk
      have h10 := h1 0 _ rfl
      have hb : a.block < W.heap.size := by
        have := World.block_lt_of_cell? W _ h10
        revert this
        unfold Addr.add
        split <;> exact id
      have hs : a.spot = none := World.cell?_spot (a := a) (by simpa [Addr.add] using (hq 0 (by omega)).1 0 _ rfl)
      obtain ⟨b, off, sp⟩ := a
      simp only at hs
      subst hs
      have e : ((List.range len).map q)[k]'(by rw [hlen]; exact hk) = q k := by simp
      rw [e]
      refine ⟨b, off, rfl, hb, fun j u hj => ?_⟩
      have := h1 j u hj
      rw [addn] at this
      rw [Nat.add_assoc]; exact this
    · obtain ⟨i, hi, rfl⟩ := List.mem_map.1 hx
      exact (hq i (List.mem_range.1 hi)).2
/-- What Big says. -/
def bigP (p : RP) : Bool := decide (300 < p.t.size) || (p.k != 1 && p.k != 2) || !p.n.data.toList.isEmpty || !p.o.data.toList.isEmpty || decide (0 < p.wl) || p.q
def bigL (L : List RP) : Bool := L.any bigP || decide (40 < L.length)
def RP.pt (p : RP) : Pt := ⟨p.k, p.t, .slice p.wa p.wl p.wc⟩
theorem small_of {L : List RP} (h : bigL L = false) : L.length ≤ 40 ∧ ∀ p ∈ L, p.t.size ≤ 300 ∧ (p.k = 1 ∨ p.k = 2) ∧ p.cs = p.pt.cs ∧ p.pt.ok := by
  unfold bigL at h
  rw [Bool.or_eq_false_iff, decide_eq_false_iff_not] at h
  refine ⟨by omega, fun p hp => ?_⟩
  have h2 : bigP p = false := by
    have := List.any_eq_false.1 h.1 p hp
    simpa using this
  unfold bigP at h2
  simp only [Bool.or_eq_false_iff, decide_eq_false_iff_not] at h2
  obtain ⟨⟨⟨⟨⟨h3, h4⟩, h5⟩, h6⟩, h7⟩, h8⟩ := h2
  have e5 : p.n = ⟨#[]⟩ := by
    have : p.n.data.toList = [] := by simpa using h5
    apply ByteArray.ext
    apply Array.toList_inj.1
    rw [this]
  have e6 : p.o = ⟨#[]⟩ := by
    have : p.o.data.toList = [] := by simpa using h6
    apply ByteArray.ext
    apply Array.toList_inj.1
    rw [this]
  have e7 : p.wl = 0 := by omega
  refine ⟨by omega, ?_, ?_, ?_⟩
  · rcases Int.decEq p.k 1 with h | h
    · right
      simp [h] at h4
      exact h4
    · exact .inl h
  · unfold RP.cs Pt.cs RP.pt; rw [e5, e6, h8]
  · exact ⟨p.wa, p.wc, by unfold RP.pt; rw [e7]⟩
theorem Rw.sl {w : World} {v : Value} {L : List RP} (h : Rw w v L) (hb : bigL L = false) : Sl w v (L.map RP.pt) := by
  obtain ⟨_, hs⟩ := small_of hb
  obtain ⟨a, c, h1, h2⟩ := h.form
  refine ⟨⟨a, c, by rw [h1, List.length_map], fun i hi => ?_⟩, fun p hp => ?_⟩
  · rw [List.length_map] at hi
    obtain ⟨b, off, e1, e2, e3⟩ := h2 i hi
    refine ⟨b, off, e1, e2, fun q u hq => e3 q u ?_⟩
    rw [(hs _ (List.getElem_mem hi)).2.2.1]
    rw [List.getElem_map] at hq
    exact hq
  · obtain ⟨r, hr, rfl⟩ := List.mem_map.1 hp
    exact (hs r hr).2.2.2
end Go.Proofs.Ytdkkfcpnfhfjdaa
