import Derived.Test.YtjagnihkpgbjeaaDoorVN2
import Derived.Deep.AppendLies
import Derived.Deep.AppendSrc
import Derived.Deep.SlicePairs
import Derived.ChangeArms
import Derived.Test.YtjagnihkpgbjeaaDoorJG
import Derived.Test.YtjagnihkpgbjeaaDoorFH
import Derived.Test.YtjagnihkpgbjeaaDoorJD
namespace Go.Proofs.YtjagnihkpgbjeaaDoor
open Go.RowKit Go.ChangeShapes Go.WideShapes
set_option linter.unusedVariables false
/-- Strings, to be read behind v. -/
structure Txt (w : World) (v : Value) (l : List ByteArray) : Prop where
  form : ∃ a c, v = .slice a l.length c ∧ ∀ i (h : i < l.length), ∃ b off, a = some ⟨b, off, none⟩ ∧ b < w.heap.size ∧ w.cell? ⟨b, off + i, none⟩ = some (.string l[i])
theorem Txt.below {w w' : World} {v : Value} {l : List ByteArray} (h : Txt w v l) (hb : Below w.heap.size w w') : Txt w' v l := by
  obtain ⟨a, c, h1, h2⟩ := h.form
  refine ⟨a, c, h1, fun i hi => ?_⟩
  obtain ⟨b, off, e1, e2, e3⟩ := h2 i hi
  exact ⟨b, off, e1, Nat.lt_of_lt_of_le e2 hb.size, (hb.cell (p := ⟨b, _, none⟩) e2).trans e3⟩
set_option maxRecDepth 10000 in
theorem open_strs {H : Type} {enc : TypeId × Value → H} {base : Nat} {W : World} {v : Value} {d : DataW H} {p : List MemPlace}
    (hv : Value.okWide Tryd.prog W .any base 29 v) (h : DataW.Trod enc Tryd.prog W 0 (fun _ => true) true 29 v d p) : ∃ l, Txt W v l ∧ l.length ≤ maxLen ∧ ∀ x ∈ l, x.size ≤ maxLen := by
  obtain ⟨a0, len, cap, rfl⟩ := okWide_slice Tryd.underlying29 hv
  obtain ⟨fuel, hf⟩ := h
  have hf2 : DataW.trod enc Tryd.prog W 0 (fun _ => true) true fuel 29 [.slice a0 len cap] = some (d, p) := hf
  have c9 : Tryd.prog.cellsOf 9 = 1 := by kernel_rfl
  have u9 : Tryd.prog.underlying 9 = some .string := by kernel_rfl
  rcases Go.Deep.open_slice Tryd.underlying29 hf2 with ⟨h0, _⟩ | ⟨a, len', cap', m, n, D, Pl, h0, hb, hl, hm, hmm, _, hx⟩
  · simp at h0
    obtain ⟨rfl, rfl, rfl⟩ := h0
    exact ⟨[], ⟨none, 0, rfl, fun i hi => absurd hi (by simp)⟩, by simp, by simp⟩
  · simp at h0
    obtain ⟨rfl, rfl, rfl⟩ := h0
    have each : ∀ i, i < len → ∃ q : ByteArray, W.cell? (a.add i) = some (.string q) ∧ q.size ≤ maxLen := by
      intro i hi
      have him : i < m := by rw [hmm]; split <;> omega
      obtain ⟨cs', h1, h2⟩ := hx i him
      rw [c9, Nat.mul_one] at h1
      obtain ⟨_, hlen, hcell⟩ := World.cells?_some h1
      match cs', hlen with
      | [u], _ =>
        obtain ⟨s1, e1, _, z1⟩ := DataW.trod_string u9 h2
        have := hcell 0 (by omega)
        simp at e1
        subst e1
        exact ⟨s1, by simpa [Addr.add] using this, z1⟩
    obtain ⟨q, hq⟩ := Go.Deep.choose_lt each
    have hlen : ((List.range len).map q).length = len := by simp
    refine ⟨(List.range len).map q, ⟨some a, cap, by rw [hlen], fun k hk => ?_⟩, by rw [hlen]; omega, fun x hx => ?_⟩
    · rw [hlen] at hk
      obtain ⟨h1, h2⟩ := hq k hk
      have hb : a.block < W.heap.size := by
        have := World.block_lt_of_cell? W _ h1
        revert this
        unfold Addr.add
        split <;> exact id
      have hs : a.spot = none := World.cell?_spot (a := a) (by simpa [Addr.add] using (hq 0 (by omega)).1)
      obtain ⟨b, off, sp⟩ := a
      simp only at hs
      subst hs
      rw [addn] at h1
      have e : ((List.range len).map q)[k]'(by rw [hlen]; exact hk) = q k := by simp
      rw [e]
      exact ⟨b, off, rfl, hb, h1⟩
    · obtain ⟨i, hi, rfl⟩ := List.mem_map.1 hx
      exact (hq i (List.mem_range.1 hi)).2
/-- Bools, to be read behind v. -/
structure Bls (w : World) (v : Value) (l : List Bool) : Prop where
  form : ∃ a c, v = .slice a l.length c ∧ ∀ i (h : i < l.length), ∃ b off, a = some ⟨b, off, none⟩ ∧ b < w.heap.size ∧ w.cell? ⟨b, off + i, none⟩ = some (.bool l[i])
theorem Bls.below {w w' : World} {v : Value} {l : List Bool} (h : Bls w v l) (hb : Below w.heap.size w w') : Bls w' v l := by
  obtain ⟨a, c, h1, h2⟩ := h.form
  refine ⟨a, c, h1, fun i hi => ?_⟩
  obtain ⟨b, off, e1, e2, e3⟩ := h2 i hi
  exact ⟨b, off, e1, Nat.lt_of_lt_of_le e2 hb.size, (hb.cell (p := ⟨b, _, none⟩) e2).trans e3⟩
set_option maxRecDepth 10000 in
theorem open_bools {H : Type} {enc : TypeId × Value → H} {base : Nat} {W : World} {v : Value} {d : DataW H} {p : List MemPlace}
    (hv : Value.okWide Tryd.prog W .any base 41 v) (h : DataW.Trod enc Tryd.prog W 0 (fun _ => true) true 41 v d p) : ∃ l, Bls W v l ∧ l.length ≤ maxLen := by
  obtain ⟨a0, len, cap, rfl⟩ := okWide_slice Tryd.underlying41 hv
  obtain ⟨fuel, hf⟩ := h
  have hf2 : DataW.trod enc Tryd.prog W 0 (fun _ => true) true fuel 41 [.slice a0 len cap] = some (d, p) := hf
  have c4 : Tryd.prog.cellsOf 4 = 1 := by kernel_rfl
  have u4 : Tryd.prog.underlying 4 = some .bool := by kernel_rfl
  rcases Go.Deep.open_slice Tryd.underlying41 hf2 with ⟨h0, _⟩ | ⟨a, len', cap', m, n, D, Pl, h0, hb, hl, hm, hmm, _, hx⟩
  · simp at h0
    obtain ⟨rfl, rfl, rfl⟩ := h0
    exact ⟨[], ⟨none, 0, rfl, fun i hi => absurd hi (by simp)⟩, by simp⟩
  · simp at h0
    obtain ⟨rfl, rfl, rfl⟩ := h0
    have each : ∀ i, i < len → ∃ q : Bool, W.cell? (a.add i) = some (.bool q) := by
      intro i hi
      have him : i < m := by rw [hmm]; split <;> omega
      obtain ⟨cs', h1, h2⟩ := hx i him
      rw [c4, Nat.mul_one] at h1
      obtain ⟨_, hlen, hcell⟩ := World.cells?_some h1
      match cs', hlen with
      | [u], _ =>
        obtain ⟨s1, e1, _⟩ := DataW.trod_bool u4 h2
        have := hcell 0 (by omega)
        simp at e1
        subst e1
        exact ⟨s1, by simpa [Addr.add] using this⟩
    obtain ⟨q, hq⟩ := Go.Deep.choose_lt each
    have hlen : ((List.range len).map q).length = len := by simp
    refine ⟨(List.range len).map q, ⟨some a, cap, by rw [hlen], fun k hk => ?_⟩, by rw [hlen]; omega⟩
    · rw [hlen] at hk
      have h1 := hq k hk
      have hb : a.block < W.heap.size := by
        have := World.block_lt_of_cell? W _ h1
        revert this
        unfold Addr.add
        split <;> exact id
      have hs : a.spot = none := World.cell?_spot (a := a) (by simpa [Addr.add] using hq 0 (by omega))
      obtain ⟨b, off, sp⟩ := a
      simp only at hs
      subst hs
      rw [addn] at h1
      have e : ((List.range len).map q)[k]'(by rw [hlen]; exact hk) = q k := by simp
      rw [e]
      exact ⟨b, off, rfl, hb, h1⟩
end Go.Proofs.YtjagnihkpgbjeaaDoor

namespace Go.Proofs.YtjagnihkpgbjeaaDoor
open Go.RowKit Go.ChangeShapes Go.WideShapes
set_option linter.unusedVariables false
/-! FindGathers: a slice of slices of texts that came in, opened; the mathematics. -/
theorem strs_of_trod {H : Type} {enc : TypeId × Value → H} {W : World} {v : Value} {d : DataW H} {p : List MemPlace} {fuel : Nat}
    (hf2 : DataW.trod enc Tryd.prog W 0 (fun _ => true) true fuel 29 [v] = some (d, p)) : ∃ l, Txt W v l ∧ SlE W v (l.map (·.data.toList)) ∧ ∀ x ∈ l, x.size ≤ maxLen := by
  have c9 : Tryd.prog.cellsOf 9 = 1 := by kernel_rfl
  have u9 : Tryd.prog.underlying 9 = some .string := by kernel_rfl
  rcases Go.Deep.open_slice Tryd.underlying29 hf2 with ⟨h0, _⟩ | ⟨a, len, cap, m, n, D, Pl, h0, hb, hl, hm, hmm, _, hx⟩
  · simp at h0
    subst h0
    exact ⟨[], ⟨none, 0, rfl, fun i hi => absurd hi (by simp)⟩, .inl (.inl ⟨rfl, rfl⟩), by simp⟩
  · simp at h0
    subst h0
    have each : ∀ i, i < len → ∃ q : ByteArray, W.cell? (a.add i) = some (.string q) ∧ q.size ≤ maxLen := by
      intro i hi
      have him : i < m := by rw [hmm]; split <;> omega
      obtain ⟨cs', h1, h2⟩ := hx i him
      rw [c9, Nat.mul_one] at h1
      obtain ⟨_, hlen, hcell⟩ := World.cells?_some h1
      match cs', hlen with
      | [u], _ =>
        obtain ⟨s1, e1, _, z1⟩ := DataW.trod_string u9 h2
        have := hcell 0 (by omega)
        simp at e1
        subst e1
        exact ⟨s1, by simpa [Addr.add] using this, z1⟩
    obtain ⟨q, hq⟩ := Go.Deep.choose_lt each
    have hlen : ((List.range len).map q).length = len := by simp
    have hT : Txt W (.slice (some a) len cap) ((List.range len).map q) := by
      refine ⟨some a, cap, by rw [hlen], fun k hk => ?_⟩
      rw [hlen] at hk
      obtain ⟨h1, h2⟩ := hq k hk
      have hb : a.block < W.heap.size := by
        have := World.block_lt_of_cell? W _ h1
        revert this
        unfold Addr.add
        split <;> exact id
      have hs : a.spot = none := World.cell?_spot (a := a) (by simpa [Addr.add] using (hq 0 (by omega)).1)
      obtain ⟨b, off, sp⟩ := a
      simp only at hs
      subst hs
      rw [addn] at h1
      have e : ((List.range len).map q)[k]'(by rw [hlen]; exact hk) = q k := by simp
      rw [e]
      exact ⟨b, off, rfl, hb, h1⟩
    refine ⟨(List.range len).map q, hT, ?_, fun x hx => ?_⟩
    · by_cases h0 : len = 0
      · subst h0
        exact .inr ⟨rfl, a, cap, rfl⟩
      · have h1 := (hq 0 (by omega)).1
        have hb' : a.block < W.heap.size := by
          have := World.block_lt_of_cell? W _ h1
          revert this
          unfold Addr.add
          split <;> exact id
        have hs : a.spot = none := World.cell?_spot (a := a) (by simpa [Addr.add] using h1)
        obtain ⟨b, off, sp⟩ := a
        simp only at hs
        subst hs
        refine .inl (.inr ⟨b, off, cap, by simp, by simpa using hl, hm, hb', fun i hi => ?_⟩)
        have hi' : i < len := by simpa using hi
        have h2 := (hq i hi').1
        rw [addn] at h2
        rw [h2]
        simp [encStr]
    · obtain ⟨i, hi, rfl⟩ := List.mem_map.1 hx
      exact (hq i (List.mem_range.1 hi)).2
/-- Slices of texts, to be read behind v. -/
structure Lss (w : World) (v : Value) (n : Nat) (ls : Nat → List ByteArray) : Prop where
  form : ∃ a c, v = .slice a n c ∧ ∀ i, i < n → ∃ b off u, a = some ⟨b, off, none⟩ ∧ b < w.heap.size ∧ w.cell? ⟨b, off + i, none⟩ = some u ∧ Txt w u (ls i) ∧ SlE w u ((ls i).map (·.data.toList)) ∧ ∀ x ∈ ls i, x.size ≤ maxLen
set_option maxRecDepth 10000 in
theorem open_lists {H : Type} {enc : TypeId × Value → H} {base : Nat} {W : World} {v : Value} {d : DataW H} {p : List MemPlace}
    (hv : Value.okWide Tryd.prog W .any base 55 v) (h : DataW.Trod enc Tryd.prog W 0 (fun _ => true) true 55 v d p) : ∃ n ls, Lss W v n ls ∧ n ≤ maxLen := by
  obtain ⟨a0, len, cap, rfl⟩ := okWide_slice Tryd.underlying55 hv
  obtain ⟨fuel, hf⟩ := h
  have hf2 : DataW.trod enc Tryd.prog W 0 (fun _ => true) true fuel 55 [.slice a0 len cap] = some (d, p) := hf
  have c29 : Tryd.prog.cellsOf 29 = 1 := by kernel_rfl
  rcases Go.Deep.open_slice1 Tryd.underlying55 c29 hf2 with ⟨h0, _⟩ | ⟨a, len', cap', m, n, V, D, Pl, h0, hb, hl, hm, hmm, _, hx⟩
  · simp at h0
    obtain ⟨rfl, rfl, rfl⟩ := h0
    exact ⟨0, fun _ => [], ⟨none, 0, rfl, fun i hi => absurd hi (by omega)⟩, by unfold maxLen; omega⟩
  · simp at h0
    obtain ⟨rfl, rfl, rfl⟩ := h0
    have each : ∀ i, i < len → ∃ q : List ByteArray, Txt W (V i) q ∧ SlE W (V i) (q.map (·.data.toList)) ∧ ∀ x ∈ q, x.size ≤ maxLen := by
      intro i hi
      have him : i < m := by rw [hmm]; split <;> omega
      exact strs_of_trod (hx i him).2
    obtain ⟨q, hq⟩ := Go.Deep.choose_lt each
    refine ⟨len, q, ⟨some a, cap, rfl, fun k hk => ?_⟩, by omega⟩
    have him : ∀ i, i < len → i < m := fun i hi => by rw [hmm]; split <;> omega
    have h1 := (hx k (him k hk)).1
    have hb : a.block < W.heap.size := by
      have := World.block_lt_of_cell? W _ h1
      revert this
      unfold Addr.add
      split <;> exact id
    have hs : a.spot = none := World.cell?_spot (a := a) (by simpa [Addr.add] using (hx 0 (him 0 (by omega))).1)
    obtain ⟨b, off, sp⟩ := a
    have hs : sp = none := hs
    subst hs
    rw [addn] at h1
    exact ⟨b, off, V k, rfl, hb, h1, (hq k hk).1, (hq k hk).2.1, (hq k hk).2.2⟩
/-! The rules that the law puts together. -/
def gaR (N : Nat → List Bs) (rb : Nat → Bool) (i : Nat) : Rl := ⟨[[97], [98]], N i, if rb i then [114 :: dg i] else []⟩
def gaL (N : Nat → List Bs) (rb : Nat → Bool) (k : Nat) : List Rl := (List.range k).map (gaR N rb)
def gaP (N : Nat → List Bs) (rb : Nat → Bool) (k : Nat) : Pl := planL (gaL N rb k)
theorem gaL_succ (N : Nat → List Bs) (rb : Nat → Bool) (k : Nat) : gaL N rb (k + 1) = gaL N rb k ++ [gaR N rb k] := by unfold gaL; rw [List.range_succ, List.map_append]; rfl
theorem gaL_len (N : Nat → List Bs) (rb : Nat → Bool) (k : Nat) : (gaL N rb k).length = k := by unfold gaL; simp
theorem gaP_succ (N : Nat → List Bs) (rb : Nat → Bool) (k : Nat) : gaP N rb (k + 1) = ⟨addF (gaP N rb k).ns (N k), if rb k then [114 :: dg k] else (gaP N rb k).rc, true⟩ := by
  unfold gaP planL
  rw [gaL_succ, List.foldl_append]
  cases h : rb k with
  | true => simp [gaR, h]
  | false => simp [gaR, h]
/-- The last recipe's text. -/
def lastL (rb : Nat → Bool) : Nat → Bs
  | 0 => []
  | k + 1 => if rb k then 114 :: dg k else lastL rb k
theorem gaP_rc (N : Nat → List Bs) (rb : Nat → Bool) : ∀ k, (gaP N rb k).rc = if lastL rb k = [] then [] else [lastL rb k]
  | 0 => rfl
  | k + 1 => by
    rw [gaP_succ]
    show (if rb k then [114 :: dg k] else (gaP N rb k).rc) = _
    unfold lastL
    cases h : rb k with
    | true => simp
    | false =>
      simp only [Bool.false_eq_true, if_false]
      exact gaP_rc N rb k
theorem gaP_rule (N : Nat → List Bs) (rb : Nat → Bool) (k : Nat) : (gaP N rb k).rule = decide (0 < k) := by
  cases k with
  | zero => rfl
  | succ k => rw [gaP_succ]; simp
theorem ga_plain (N : Nat → List Bs) (rb : Nat → Bool) (k : Nat) : plainF (gaL N rb k) [98] = gaL N rb k := by
  unfold plainF
  rw [List.filter_eq_self]
  intro r hr
  unfold gaL at hr
  obtain ⟨i, _, rfl⟩ := List.mem_map.1 hr
  rfl
theorem ga_norc (N : Nat → List Bs) (rb : Nat → Bool) : ∀ k, lastL rb k = [] → ∀ r ∈ gaL N rb k, r.rc = []
  | 0, _, r, hr => by simp [gaL] at hr
  | k + 1, h, r, hr => by
    unfold lastL at h
    rw [gaL_succ] at hr
    cases hb : rb k with
    | true => rw [hb] at h; simp at h
    | false =>
      rw [hb] at h
      simp only [Bool.false_eq_true, if_false] at h
      rcases List.mem_append.1 hr with hr | hr
      · exact ga_norc N rb k h r hr
      · rw [List.mem_singleton.1 hr]
        simp [gaR, hb]
end Go.Proofs.YtjagnihkpgbjeaaDoor

namespace Go.Proofs.YtjagnihkpgbjeaaDoor
open Go.RowKit Go.Maps Go.ChangeMaps
set_option linter.unusedVariables false
/-! alive of find's laws. -/
def ruC : Rl := ⟨[[37, 46, 111]], [[37, 46, 99]], [[120]]⟩
def rsC : List Rl := [ruC]
def TC : Tr := setF newT [[97, 46, 99]] (some ⟨true, [], 0 + 1⟩)
def wdC (w : World) : World := ((((w.alloc (.cells #[.string ⟨#[37, 46, 111]⟩] 9)).alloc (.cells #[.string ⟨#[37, 46, 99]⟩] 9)).alloc (.cells #[.string ⟨#[120]⟩] 9)).alloc (.cells #[.slice (some ⟨w.heap.size, 0, none⟩) 1 1, .slice (some ⟨w.heap.size + 1, 0, none⟩) 1 1, .slice (some ⟨w.heap.size + 1 + 1, 0, none⟩) 1 1] 48)).alloc (.cells #[.slice none 0 0, .slice (some ⟨w.heap.size + 1 + 1 + 1, 0, none⟩) 1 1] 45)
theorem wdC_facts (w : World) : ∀ W, wdC w = W → RsV W (.slice (some ⟨w.heap.size + 1 + 1 + 1, 0, none⟩) 1 1) rsC ∧ Below w.heap.size w W ∧ w.heap.size + 1 + 1 + 1 + 1 < W.heap.size ∧ W.cell? ⟨w.heap.size + 1 + 1 + 1 + 1, 0, none⟩ = some (.slice none 0 0) ∧ W.cell? ⟨w.heap.size + 1 + 1 + 1 + 1, 1, none⟩ = some (.slice (some ⟨w.heap.size + 1 + 1 + 1, 0, none⟩) 1 1) := by
  intro W hW
  unfold wdC at hW
  obtain ⟨w2, h2⟩ : ∃ w2, w.alloc (.cells #[.string ⟨#[37, 46, 111]⟩] 9) = w2 := ⟨_, rfl⟩
  have s2 : w2.heap.size = w.heap.size + 1 := by rw [← h2, size_alloc]
  obtain ⟨w3, h3⟩ : ∃ w3, w2.alloc (.cells #[.string ⟨#[37, 46, 99]⟩] 9) = w3 := ⟨_, rfl⟩
  have s3 : w3.heap.size = w.heap.size + 1 + 1 := by rw [← h3, size_alloc, s2]
  obtain ⟨w5, h5⟩ : ∃ w5, w3.alloc (.cells #[.string ⟨#[120]⟩] 9) = w5 := ⟨_, rfl⟩
  have s5 : w5.heap.size = w.heap.size + 1 + 1 + 1 := by rw [← h5, size_alloc, s3]
  rw [h2, h3, h5] at hW
  obtain ⟨w4, h4⟩ : ∃ w4, w5.alloc (.cells #[.slice (some ⟨w.heap.size, 0, none⟩) 1 1, .slice (some ⟨w.heap.size + 1, 0, none⟩) 1 1, .slice (some ⟨w.heap.size + 1 + 1, 0, none⟩) 1 1] 48) = w4 := ⟨_, rfl⟩
  have s4 : w4.heap.size = w.heap.size + 1 + 1 + 1 + 1 := by rw [← h4, size_alloc, s5]
  rw [h4] at hW
  have b2 : Below w.heap.size w w2 := h2 ▸ below_alloc _ _
  have b3 : Below w2.heap.size w2 w3 := h3 ▸ below_alloc _ _
  have b5 : Below w3.heap.size w3 w5 := h5 ▸ below_alloc _ _
  have b4 : Below w5.heap.size w5 w4 := h4 ▸ below_alloc _ _
  have t2 : SlS w2 (.slice (some ⟨w.heap.size, 0, none⟩) 1 1) [[37, 46, 111]] := by rw [← h2]; exact sl_new w [37, 46, 111]
  have t3 : SlS w3 (.slice (some ⟨w.heap.size + 1, 0, none⟩) 1 1) [[37, 46, 99]] := by rw [← h3, ← s2]; exact sl_new w2 [37, 46, 99]
  have t5 : SlS w5 (.slice (some ⟨w.heap.size + 1 + 1, 0, none⟩) 1 1) [[120]] := by rw [← h5, ← s3]; exact sl_new w3 [120]
  have hr : RsV w4 (.slice (some ⟨w.heap.size + 1 + 1 + 1, 0, none⟩) 1 1) rsC := by
    refine .inr ⟨w.heap.size + 1 + 1 + 1, 0, 1, rfl, by simp [rsC], by omega, by rw [s4]; omega, fun i hi => ?_⟩
    obtain rfl : i = 0 := by simpa [rsC] using hi
    refine ⟨.slice (some ⟨w.heap.size, 0, none⟩) 1 1, .slice (some ⟨w.heap.size + 1, 0, none⟩) 1 1, .slice (some ⟨w.heap.size + 1 + 1, 0, none⟩) 1 1, ?_, ?_, ?_, ⟨((t2.below b3).below b5).below b4, SlE.of ((t3.below b5).below b4), t5.below b4, by simp [rsC, ruC], by simp [rsC, ruC], by simp [rsC, ruC]⟩⟩
    · rw [← s5, ← h4]; exact cell_new _ _ _ _
    · rw [← s5, ← h4]; exact cell_new _ _ _ _
    · rw [← s5, ← h4]; exact cell_new _ _ _ _
  subst hW
  refine ⟨hr.below (below_alloc _ _), below_trans b2 (below_trans b3 (below_trans b5 (below_trans b4 (below_alloc _ _)))), by rw [size_alloc, s4]; omega, ?_, ?_⟩
  · rw [← s4]; exact cell_new _ _ _ _
  · rw [← s4]; exact cell_new _ _ _ _
theorem nmAC : Nm [97, 46, 99] := (okB_nm (by decide)).1
theorem hitC : rsC.find? (fitF TC rsC [97]) = some ruC := by
  have h : fitF TC rsC [97] ruC = true := by decide
  unfold rsC at h ⊢
  exact List.find?_cons_of_pos h
theorem plC : plainF rsC ([97] ++ [46, 111]) = [] := by
  have h : makesF ruC ([97] ++ [46, 111]) = false := by decide
  unfold plainF rsC
  rw [List.filter_cons, h]; rfl
theorem patC : ∀ r ∈ rsC, r.rc = [] ∨ PatOk [97] [46, 111] r := by
  intro r hr
  obtain rfl : r = ruC := by simpa [rsC] using hr
  exact .inr ⟨rfl, [46, 99], rfl, nmAC, by decide⟩
set_option maxRecDepth 100000 in
set_option maxHeartbeats 4000000 in
theorem alive25 (w : World) (hm : Hm w) : Calls Tryd.prog 25 #[] w fun e w' => e = .returned (.bool true) ∧ Below w.heap.size w w' := by
  have HNEW := Lib.hid (fun w => New_sx 3 10 (by omega) (by omega) (by omega) (by omega) w)
  have HW1 := Lib.hid (fun (B : Nat) (w1 : World) (f : Nat) (h : Sx B w1 0 f ⟨3, 10, 0, 0, 0⟩ newT) => Write_sx (s := [97, 46, 99]) h nmAC rfl ⟨by decide, by decide, by decide, by decide, by decide⟩ (by decide) (by decide) (by decide))
  rw [show pathB [97, 46, 99] = ⟨#[47, 97, 46, 99]⟩ from rfl] at HW1
  have HPL := Lib.hid (fun (B : Nat) (w1 : World) (f : Nat) (b : Nat) (h : Sx B w1 1 f ⟨3, 10, 0 + 1, 0, 0 + 1⟩ TC) (hm1 : Hm w1) (hr : RsV w1 (.slice (some ⟨b, 0, none⟩) 1 1) rsC) => (show Calls Tryd.prog 27 #[.agg #[.slice none 0 0, .slice (some ⟨b, 0, none⟩) 1 1], .pointer (some ⟨f, 0, none⟩), .string ⟨#[47]⟩, .string ⟨#[97, 46, 111]⟩] w1 fun e w' => ∃ nv rv, e = .returned (.agg #[nv, rv, .string ⟨#[97]⟩, .bool true]) ∧ SlS w' nv [[97, 46, 99]] ∧ SlS w' rv [[120]] ∧ Below w1.heap.size w1 w' from by
    obtain ⟨F, h1, _⟩ := h.fs
    exact Plan_hit h1 hm1 (.slice none 0 0) (.slice (some ⟨b, 0, none⟩) 1 1) rsC [97] [46, 111] hr (by simp [rsC]) patC (by decide) (by decide) ⟨_, _, _, rfl⟩ (by decide) plC ruC hitC (by decide)))
  obtain ⟨W, hW⟩ : ∃ W, wdC w = W := ⟨_, rfl⟩
  have HWD := Lib.hid (wdC_facts w W hW)
  unfold wdC at hW
  have HWW := Lib.hid hW
  have HM := Lib.hid (hm.below HWD.out.2.1)
  clear hW hm
  go_enter Tryd.func25, Tryd.ntmps25
  go_wp2_with fail
  rw [HWW.out]
  refine (HNEW.out W).mono ?_
  rintro e w1 ⟨f, rfl, hf, h1⟩
  have HF := Lib.hid hf
  have H1 := Lib.hid h1
  clear hf h1
  simp only []
  go_wp2_with (first
    | (go_at_call 15; refine (HW1.out _ _ _ HF.out).mono ?_; rintro e w2 ⟨rfl, hf2, h2⟩; have HF2 := Lib.hid hf2; have H2 := Lib.hid (H1.out.trans h2); have q0 := (H2.out.cell (p := ⟨w.heap.size + 1 + 1 + 1 + 1, 0, none⟩) HWD.out.2.2.1).trans HWD.out.2.2.2.1; have q1 := (H2.out.cell (p := ⟨w.heap.size + 1 + 1 + 1 + 1, 1, none⟩) HWD.out.2.2.1).trans HWD.out.2.2.2.2; clear h2 hf2; simp only [])
    | (go_at_call 27; refine (HPL.out _ _ _ _ HF2.out (HM.out.below H2.out) (HWD.out.1.below H2.out)).mono ?_; rintro e w3 ⟨nv, rv, rfl, hnv, hrv, h3⟩; have H3 := Lib.hid h3; obtain ⟨na, nc, hnf⟩ := hnv.len; have hnf : nv = .slice na 1 nc := hnf; subst hnf; obtain ⟨ra, rn, rc, rfl⟩ := sl_form hrv; obtain ⟨g, off, rfl, _, hc⟩ := strs_sl hnv (by simp); have hck : w3.cell? ⟨g, off, none⟩ = some (.string ⟨#[97, 46, 99]⟩) := hc 0 (by simp); have hgl := World.block_lt_of_cell? _ _ hck; have hck2 : (w3.alloc (.cells #[.slice (some ⟨g, off, none⟩) 1 nc, .slice ra rn rc, .string ⟨#[97]⟩, .bool true] 50)).cell? ⟨g, off, none⟩ = some (.string ⟨#[97, 46, 99]⟩) := ((below_alloc _ _).cell (p := ⟨g, off, none⟩) hgl).trans hck; clear hnv hrv h3 hc; simp only []))
  go_ret
  exact ⟨rfl, below_trans HWD.out.2.1 (below_trans H2.out (below_trans H3.out (below_alloc _ _)))⟩
end Go.Proofs.YtjagnihkpgbjeaaDoor

namespace Go.Proofs.YtjagnihkpgbjeaaDoor
open Go.RowKit Go.Maps Go.ChangeMaps
set_option linter.unusedVariables false
/-! FindGathers: the rules and the needs that are gathered, each in a row of the call's own; the needs of a rule lie where they came from. -/
structure RA (w1 w : World) (vq : Value) (x : Value × Value × Value) (r : Rl) : Prop where
  t : SB w x.1 r.ts
  n : SlE w1 x.2.1 r.ns
  k : SB w x.2.2 r.rc
  ta : ∀ g, x.1.ownBlock = some g → g < w.heap.size ∧ vq.ownBlock ≠ some g
  ka : ∀ g, x.2.2.ownBlock = some g → g < w.heap.size ∧ vq.ownBlock ≠ some g
  nl : r.ns.length ≤ 1000
structure Gh (w1 wx : World) (b6 : Nat) (v vq : Value) (rs : List Rl) (ns : List Bs) : Prop where
  blk : wx.heap[b6]? = some (.cells [.slice none 0 0, v].toArray 45 (0, 0))
  row : ∃ cs : List (Value × Value × Value), cs.length = rs.length ∧ wx.ownsRow w1.heap.size 48 3 v rs.length (tri cs) ∧ ∀ i (h : i < rs.length) (h' : i < cs.length), RA w1 wx vq cs[i] rs[i]
  want : wx.ownsRow w1.heap.size 9 1 vq ns.length (ns.map encStr)
  old : Below w1.heap.size w1 wx
  ge : w1.heap.size ≤ b6
theorem SB.blk {w : World} {x : Value} {L : List Bs} (h : SB w x L) : ∀ g, x.ownBlock = some g → w.heap[g]? = some (.cells (L.map encStr).toArray 9 (0, 0)) := by
  intro g hg
  rcases h with ⟨rfl, _⟩ | ⟨g', rfl, h2, _⟩
  · cases hg
  · have e : g' = g := by injection hg
    subst e; exact h2
theorem SB.keepAt {w w' : World} {x : Value} {L : List Bs} (h : SB w x L) (hk : ∀ g, x.ownBlock = some g → w'.heap[g]? = w.heap[g]?) : SB w' x L := by
  rcases h with h | ⟨g, h1, h2, h3⟩
  · exact .inl h
  · exact .inr ⟨g, h1, (hk g (by rw [h1]; rfl)).trans h2, h3⟩
theorem RA.keep {w1 w w' : World} {vq vq' : Value} {x : Value × Value × Value} {r : Rl} (h : RA w1 w vq x r) (hs : w.heap.size ≤ w'.heap.size) (hk : ∀ g, g < w.heap.size → vq.ownBlock ≠ some g → w.heap[g]? ≠ none → (∃ arr, w.heap[g]? = some (.cells arr 9 (0, 0))) → w'.heap[g]? = w.heap[g]?) (hq : ∀ g, g < w.heap.size → vq.ownBlock ≠ some g → vq'.ownBlock ≠ some g) : RA w1 w' vq' x r :=
  ⟨h.t.keepAt fun g hg => hk g (h.ta g hg).1 (h.ta g hg).2 (by rw [h.t.blk g hg]; simp) ⟨_, h.t.blk g hg⟩, h.n, h.k.keepAt fun g hg => hk g (h.ka g hg).1 (h.ka g hg).2 (by rw [h.k.blk g hg]; simp) ⟨_, h.k.blk g hg⟩,
    fun g hg => ⟨Nat.lt_of_lt_of_le (h.ta g hg).1 hs, hq g (h.ta g hg).1 (h.ta g hg).2⟩, fun g hg => ⟨Nat.lt_of_lt_of_le (h.ka g hg).1 hs, hq g (h.ka g hg).1 (h.ka g hg).2⟩, h.nl⟩
section
variable {w1 wx w' : World} {b6 : Nat} {v vq : Value} {rs : List Rl} {ns : List Bs}
theorem Gh.below (h : Gh w1 wx b6 v vq rs ns) (hb : Below wx.heap.size wx w') : Gh w1 w' b6 v vq rs ns := by
  obtain ⟨cs, h1, h2, h3⟩ := h.row
  exact ⟨(hb.block _ (Array.getElem?_eq_some_iff.1 h.blk).1).trans h.blk, ⟨cs, h1, own_keep3 h2 hb, fun i hi hi' => (h3 i hi hi').keep hb.size (fun g hg _ _ _ => hb.block g hg) (fun _ _ hn => hn)⟩, own_keep3 h.want hb, h.old.trans (hb.mono h.old.size), h.ge⟩
theorem Gh.rsv (h : Gh w1 wx b6 v vq rs ns) (hl : rs.length ≤ 1000) : RsV wx v rs := by
  obtain ⟨cs, hcl, how, hr⟩ := h.row
  rcases how.2 with ⟨h1, h0⟩ | ⟨b, cap, cur, rfl, h2, h3, h4, h5, h6⟩
  · exact .inl ⟨h1, List.eq_nil_of_length_eq_zero h0⟩
  · refine .inr ⟨b, 0, cap, rfl, h4, h5, (Array.getElem?_eq_some_iff.1 h3).1, fun i hi => ?_⟩
    have hc : i < cs.length := by omega
    have e := tri_at cs i hc
    have hh := hr i hi hc
    rw [Nat.zero_add]
    exact ⟨_, _, _, by rw [World.ownsRow.cellAt how (i * 3) (by omega), e.1], by rw [World.ownsRow.cellAt how (i * 3 + 1) (by omega), e.2.1], by rw [World.ownsRow.cellAt how (i * 3 + 2) (by omega), e.2.2],
      hh.t.sl, hh.n.below h.old, hh.k.sl, by have := hh.t.len; omega, by have := hh.nl; omega, by have := hh.k.len; omega⟩
theorem Gh.wsl (h : Gh w1 wx b6 v vq rs ns) : SlS wx vq ns := SlS.own h.want
theorem own_type {w : World} {B e sz n : Nat} {u : Value} {xs : List Value} (h : w.ownsRow B e sz u n xs) : ∀ g, u.ownBlock = some g → ∃ arr, w.heap[g]? = some (.cells arr e (0, 0)) := by
  intro g hg
  rcases h.2 with ⟨r1, _⟩ | ⟨b, cap, cur, r1, _, r3, _⟩
  · rw [r1] at hg; cases hg
  · rw [r1] at hg
    have e : b = g := by injection hg
    subst e; exact ⟨cur, r3⟩
theorem own_at {w w' : World} {B e sz n : Nat} {u : Value} {xs : List Value} (h : w.ownsRow B e sz u n xs) (hk : ∀ g, u.ownBlock = some g → w'.heap[g]? = w.heap[g]?) : w'.ownsRow B e sz u n xs := by
  refine ⟨h.1, ?_⟩
  rcases h.2 with h1 | ⟨b, cap, cur, r1, r2, r3, r4⟩
  · exact .inl h1
  · exact .inr ⟨b, cap, cur, r1, r2, (hk b (by rw [r1]; rfl)).trans r3, r4⟩
/-- A rule more. -/
theorem Gh.push (h : Gh w1 wx b6 v vq rs ns) (m : Nat) (hm : rs.length = m) (hl : m ≤ 1000) (x y z : Value) (r : Rl) (h3 : RA w1 wx vq (x, y, z) r) (hy : ∃ a n c, y = .slice a n c) :
    ∃ v' w3, (Builtin.append_ #[43, 43] 43 #[v, .slice (some ⟨wx.heap.size, 0, none⟩) 1 1]).run Tryd.prog (wx.alloc (.cells #[x, y, z] 48)) = .ok v' w3 ∧
      w3.cell? ⟨b6, 1, none⟩ = some v ∧ w3.frozen? ⟨b6, 1, none⟩ = false ∧ (∃ g c, v' = .slice (some ⟨g, 0, none⟩) (m + 1) c) ∧ Gh w1 (w3.setCell ⟨b6, 1, none⟩ v') b6 v' vq (rs ++ [r]) ns := by
  subst hm
  obtain ⟨i0, hi, hz0, hz1, hz2⟩ := info_parts info48
  obtain ⟨w2, hw2⟩ : ∃ w2, wx.alloc (.cells #[x, y, z] 48) = w2 := ⟨_, rfl⟩
  have hw0 : Below wx.heap.size wx w2 := hw2 ▸ below_alloc _ _
  have hs2 : w2.heap.size = wx.heap.size + 1 := by rw [← hw2, size_alloc]
  have hn2 : w2.heap[wx.heap.size]? = some (.cells #[x, y, z] 48 (0, 0)) := hw2 ▸ heap_alloc_new wx _
  rw [hw2]
  have h2' := h.below hw0
  have h3w : RA w1 w2 vq (x, y, z) r := h3.keep hw0.size (fun g hg _ _ _ => hw0.block g hg) (fun _ _ hn => hn)
  obtain ⟨cs, hcl, hown, hr⟩ := h2'.row
  have hold := h2'.old.size
  obtain ⟨v', w3, e1, e2, e3, e4⟩ := run_append_own (P := Tryd.prog) w2 w1.heap.size 43 43 48 i0 _ 3 72 Tryd.underlying43 hi hz0 hz1 hz2 rfl (by decide) v rs.length (tri cs) hown ⟨wx.heap.size, 0, none⟩ 1 1 [x, y, z] rfl
    (fun j u hj => by
      rw [addk, Nat.zero_add]
      simp only [World.cell?, hn2]
      simpa using hj) (by
      intro u hu
      simp only [List.mem_cons, List.not_mem_nil, or_false] at hu
      rcases hu with rfl | rfl | rfl
      · exact oneCell_sl h3.t.sl
      · obtain ⟨a, n, c, rfl⟩ := hy; rfl
      · exact oneCell_sl h3.k.sl) (by unfold maxLen; omega) (by omega) (by omega)
  have hne : ∀ (g : Nat) (arr : Array Value) (t : TypeId), t ≠ 48 → w2.heap[g]? = some (.cells arr t (0, 0)) → v.ownBlock ≠ some g := fun g arr t ht hg e => by
    obtain ⟨arr2, h5⟩ := own_type hown g e
    rw [hg] at h5
    injection h5 with h5
    injection h5 with _ h5 _
    exact ht h5
  have hkeep : ∀ (g : Nat) (arr : Array Value) (t : TypeId), t ≠ 48 → w2.heap[g]? = some (.cells arr t (0, 0)) → w3.heap[g]? = some (.cells arr t (0, 0)) := fun g arr t ht hg =>
    (e3.block g (Array.getElem?_eq_some_iff.1 hg).1 (fun e => hne g arr t ht hg e.symm)).trans hg
  have hb2 := h2'.blk
  have hb3 := hkeep b6 _ 45 (by decide) hb2
  have hs3 : w2.heap.size ≤ w3.heap.size := e3.size
  -- what of the other types stays behind the store too
  have hk9 : ∀ (g : Nat) (arr : Array Value) (t : TypeId), t ≠ 48 → t ≠ 45 → w2.heap[g]? = some (.cells arr t (0, 0)) → (w3.setCell ⟨b6, 1, none⟩ v').heap[g]? = some (.cells arr t (0, 0)) := fun g arr t ht ht2 hg => by
    have h5 := hkeep g arr t ht hg
    have hne2 : g ≠ b6 := by
      intro e
      rw [e, hb3] at h5
      injection h5 with h5
      injection h5 with _ h5 _
      exact ht2 h5.symm
    rw [Below.heap_setCell _ _ _ _ (by show g ≠ b6; exact hne2)]; exact h5
  obtain ⟨g9, c9, hv9, _⟩ := e2.form (by omega)
  have hRA : ∀ {x r}, RA w1 w2 vq x r → RA w1 (w3.setCell ⟨b6, 1, none⟩ v') vq x r := fun hx => hx.keep (by rw [szset]; exact hs3) (fun g hg _ _ ⟨arr, harr⟩ => by rw [harr]; exact hk9 g arr 9 (by decide) (by decide) harr) (fun _ _ hn => hn)
  refine ⟨v', w3, e1, cell_of hb3 1, free_of hb3 1, ⟨g9, c9, hv9⟩, set_of hb3 1 v', ⟨cs ++ [(x, y, z)], by simp [hcl], ?_, fun i hi' hi2 => ?_⟩, ?_, ?_, h.ge⟩
  · rw [tri_app, List.length_append]
    refine own_at e2 fun g hg => ?_
    obtain ⟨arr, harr⟩ := own_type e2 g hg
    have hne2 : g ≠ b6 := by
      intro e
      rw [e, hb3] at harr
      injection harr with harr
      injection harr with _ harr _
      cases harr
    exact Below.heap_setCell _ _ _ _ (by show g ≠ b6; exact hne2)
  · by_cases e : i < cs.length
    · have hiL : i < rs.length := by omega
      have := hr i hiL e
      rw [List.getElem_append_left e, List.getElem_append_left hiL]
      exact hRA this
    · have e2 : i = cs.length := by simp at hi2; omega
      subst e2
      rw [List.getElem_append_right (Nat.le_refl _), List.getElem_append_right (by omega)]
      simp only [hcl, Nat.sub_self, List.getElem_singleton]
      exact hRA h3w
  · refine own_at h2'.want fun g hg => ?_
    obtain ⟨arr, harr⟩ := own_type h2'.want g hg
    rw [harr]; exact hk9 g arr 9 (by decide) (by decide) harr
  · have ho : Below w1.heap.size w2 w3 := (Only.of_grown (S := fun i => v.ownBlock = some i) e3 (fun k hk => hk)).below (fun k hk => (hown.lt k hk).1) hold
    exact (h2'.old.trans ho).setCell h.ge v'
/-- A need more. -/
theorem Gh.wpush (h : Gh w1 wx b6 v vq rs ns) (s : Bs) (hl : ns.length ≤ 1000) :
    ∃ a c w3, (Builtin.append_ #[29, 29] 29 #[vq, .slice (some ⟨wx.heap.size, 0, none⟩) 1 1]).run Tryd.prog (wx.alloc (.cells #[.string (nameB s)] 9)) = .ok (.slice a (ns.length + 1) c) w3 ∧ Gh w1 w3 b6 v (.slice a (ns.length + 1) c) rs (ns ++ [s]) := by
  obtain ⟨i0, hi, hz0, hz1, hz2⟩ := info_parts info9
  obtain ⟨w2, hw2⟩ : ∃ w2, wx.alloc (.cells #[.string (nameB s)] 9) = w2 := ⟨_, rfl⟩
  have hw0 : Below wx.heap.size wx w2 := hw2 ▸ below_alloc _ _
  have hs2 : w2.heap.size = wx.heap.size + 1 := by rw [← hw2, size_alloc]
  have hn2 : w2.heap[wx.heap.size]? = some (.cells #[.string (nameB s)] 9 (0, 0)) := hw2 ▸ heap_alloc_new wx _
  rw [hw2]
  have h2' := h.below hw0
  obtain ⟨cs, hcl, hown0, hr⟩ := h.row
  have hown := own_keep3 hown0 hw0
  have hold := h2'.old.size
  obtain ⟨v', w3, e1, e2, e3, e4⟩ := run_append_own (P := Tryd.prog) w2 w1.heap.size 29 29 9 i0 (.string ⟨#[]⟩) 1 16 Tryd.underlying29 hi hz0 hz1 hz2 rfl (by decide) vq ns.length (ns.map encStr) h2'.want ⟨wx.heap.size, 0, none⟩ 1 1 [.string (nameB s)] rfl
    (fun j u hj => by
      rw [addk, Nat.zero_add]
      simp only [World.cell?, hn2]
      simpa using hj) (by intro u hu; simp only [List.mem_cons, List.not_mem_nil, or_false] at hu; rw [hu]; rfl) (by unfold maxLen; omega) (by omega) (by omega)
  have hcell : w2.cell? ⟨wx.heap.size, 0, none⟩ = some (.string (nameB s)) := by rw [← hw2]; exact cell_new _ _ _ _
  have hwh := append_where h2'.want hcell rfl (by omega) e1
  obtain ⟨a, c, hf⟩ : ∃ a c, v' = .slice a (ns.length + 1) c := by
    obtain ⟨g, c, hv, _⟩ := e2.form (by omega)
    exact ⟨_, _, hv⟩
  subst hf
  have hkq : ∀ g, g < w2.heap.size → vq.ownBlock ≠ some g → w3.heap[g]? = w2.heap[g]? := fun g hg hn => e3.block g hg (fun e => hn e.symm)
  have hty : ∀ (g : Nat) (arr : Array Value) (t : TypeId), t ≠ 9 → w2.heap[g]? = some (.cells arr t (0, 0)) → vq.ownBlock ≠ some g := fun g arr t ht hg e => by
    obtain ⟨arr2, h5⟩ := own_type h2'.want g e
    rw [hg] at h5
    injection h5 with h5
    injection h5 with _ h5 _
    exact ht h5
  refine ⟨a, c, w3, e1, ?_, ⟨cs, hcl, own_at hown fun g hg => ?_, fun i h1 h2 => ?_⟩, by rw [List.length_append, List.map_append]; exact e2, ?_, h.ge⟩
  · exact (hkq b6 (Array.getElem?_eq_some_iff.1 h2'.blk).1 (hty b6 _ 45 (by decide) h2'.blk)).trans h2'.blk
  · obtain ⟨arr, harr⟩ := own_type hown g hg
    exact hkq g (Array.getElem?_eq_some_iff.1 harr).1 (hty g arr 48 (by decide) harr)
  · refine (hr i h1 h2).keep (Nat.le_trans hw0.size e3.size) (fun g hg hn _ _ => (hkq g (by omega) hn).trans (hw0.block g hg)) (fun g hg hn => ?_)
    rcases hwh with e | e
    · rw [e]; exact hn
    · rw [e]
      intro e9
      injection e9 with e9
      omega
  · exact h2'.old.trans ((Only.of_grown (S := fun i => vq.ownBlock = some i) e3 (fun k hk => hk)).below (fun k hk => (h2'.want.lt k hk).1) hold)
end
end Go.Proofs.YtjagnihkpgbjeaaDoor
