import Derived.Test.YthbemfpoanmjcaaDoorBK
import Derived.WideKeyArgs
namespace Go.Proofs.YthbemfpoanmjcaaDoor
open Go.RowKit Go.ChangeShapes Go.WideShapes
set_option linter.unusedVariables false

theorem trod_str_d {H : Type} {enc : TypeId × Value → H} {P : Program} {w : World} {base : Nat} {spare : Nat → Bool} {held : Bool} {fuel t : Nat} {v : Value} {x : DataW H × List MemPlace} (ht : P.underlying t = some .string) (h : DataW.trod enc P w base spare held fuel t [v] = some x) :
    ∃ s : ByteArray, v = .string s ∧ s.size ≤ maxLen ∧ x.1 = .lit (.string s.data.toList) := by
  obtain ⟨s, h1, h2, h3⟩ := DataW.trod_string ht h
  refine ⟨s, ?_, h3, ?_⟩
  · injection h1
  · rw [h2]
theorem weights_in {H : Type} {P : Program} {e : TypeId} {n : Nat} : ∀ {l : List (DataW H)} {d : DataW H}, d ∈ l → n ∈ d.weights P e → n ∈ DataW.weightsAll P e l
  | x :: l, d, h, hn => by
    simp only [DataW.weightsAll, List.mem_append]
    rcases List.mem_cons.1 h with rfl | h
    · exact .inl hn
    · exact .inr (weights_in h hn)
theorem wt_at {H : Type} {P : Program} {ts : List TypeId} {ds : List (DataW H)} {t : TypeId} {d : DataW H} (j : Nat) (hz : (DataW.weightsEach P ts ds).all (· ≤ reachBytes) = true) (ht : ts[j]? = some t) (hd : ds[j]? = some d) : (d.weights P t).all (· ≤ reachBytes) = true :=
  List.all_eq_true.2 fun x hx => List.all_eq_true.1 hz x (DataW.weights_mem_each ht hd _ hx)
theorem open_prs_r {H : Type} {enc : TypeId × Value → H} {base : Nat} {W : World} {v : Value} {d : DataW H} {p : List MemPlace}
    (hv : Value.okWide Tryd.prog W .any base 24 v) (h : DataW.Trod enc Tryd.prog W 0 (fun _ => true) true 24 v d p) :
    ∃ l : Prs, PV W.heap.size W v l ∧ ((d.weights Tryd.prog 24).all (· ≤ reachBytes) = true → ∀ q ∈ l, q.2.size ≤ reachBytes) := by
  obtain ⟨a0, len, cap, rfl⟩ := okWide_slice u24 hv
  obtain ⟨fuel, hf⟩ := h
  obtain ⟨f0, f1, hu, o0, o1, t0, t1⟩ := pair_form
  have hc : Tryd.prog.cellsOf 36 = 2 := by kernel_rfl
  have c9 : Tryd.prog.cellsOf 9 = 1 := by kernel_rfl
  have c0 : Tryd.prog.cellsOf f0.type = 1 := by rw [t0]; exact c9
  have c1 : Tryd.prog.cellsOf f1.type = 1 := by rw [t1]; exact c9
  rcases Go.Deep.open_slice_pairs u24 hu hc o0 o1 c0 c1 hf with ⟨hcs, hx⟩ | ⟨a, len', cap', m, n, V0, V1, D0, D1, P0, P1, hcs, _, hl, hm, hmm, hx, hcell⟩
  · simp [Value.cells] at hcs
    obtain ⟨rfl, rfl, rfl⟩ := hcs
    exact ⟨[], ⟨by simp, by simp, .inl ⟨none, 0, rfl, rfl⟩⟩, fun _ q hq => by cases hq⟩
  · simp [Value.cells] at hcs
    obtain ⟨rfl, rfl, rfl⟩ := hcs
    rw [if_pos rfl] at hmm
    have each : ∀ i, i < len → ∃ q : ByteArray × ByteArray, W.cell? (a.add (i * 2)) = some (.string q.1) ∧ W.cell? (a.add (i * 2 + 1)) = some (.string q.2) ∧ q.2.size ≤ maxLen ∧ D1 i = .lit (.string q.2.data.toList) := by
      intro i hi
      obtain ⟨h1, h2, h3, h4⟩ := hcell i (by omega)
      rw [t0] at h3
      rw [t1] at h4
      obtain ⟨s0, e0, _⟩ := trod_str u9 h3
      obtain ⟨s1, e1, z1, d1⟩ := trod_str_d u9 h4
      exact ⟨(s0, s1), by rw [h1, e0], by rw [h2, e1], z1, d1⟩
    obtain ⟨q, hq⟩ := Go.Deep.choose_lt each
    have hlen : ((List.range len).map q).length = len := by simp
    by_cases h0 : len = 0
    · subst h0
      exact ⟨[], ⟨by simp, by simp, .inl ⟨some a, cap, rfl, rfl⟩⟩, fun _ q hq => by cases hq⟩
    · obtain ⟨h1, h2, h3, _⟩ := hq 0 (by omega)
      have hb : a.block < W.heap.size := cell_lt (p := a.add (0 * 2)) h1
      have hs : a.spot = none := World.cell?_spot (a := a) (by simpa [Addr.add] using h1)
      obtain ⟨b, off, sp⟩ := a
      simp only at hs
      subst hs
      have had : ∀ k, (⟨b, off, none⟩ : Addr).add k = ⟨b, off + k, none⟩ := by
        intro k
        unfold Addr.add
        split <;> simp_all
      refine ⟨(List.range len).map q, ⟨by rw [hlen]; unfold maxLen at hm; omega, ?_, .inr ⟨b, off, cap, by rw [hlen], hb, by simp only at hb; omega, ?_⟩⟩, ?_⟩
      · intro p hp
        obtain ⟨i, hi, rfl⟩ := List.mem_map.1 hp
        exact size_max (hq i (List.mem_range.1 hi)).2.2.1
      · intro k hk
        rw [hlen] at hk
        obtain ⟨g1, g2, _, _⟩ := hq k hk
        rw [had] at g1 g2
        have e : ((List.range len).map q)[k]'(by rw [hlen]; exact hk) = q k := by simp
        rw [e, Nat.add_assoc]
        exact ⟨g1, g2⟩
      · intro hz p hp
        obtain ⟨i, hi, rfl⟩ := List.mem_map.1 hp
        have hi' := List.mem_range.1 hi
        have hd := (hq i hi').2.2.2
        have hx' := (Prod.mk.inj hx).1
        refine of_decide_eq_true (List.all_eq_true.1 hz _ ?_)
        rw [hx']
        simp only [DataW.weights, u24, List.mem_cons, List.mem_append]
        refine .inr (.inl ?_)
        refine weights_in (e := 36) (d := .agg [D0 i, D1 i]) (List.mem_map.2 ⟨i, hi, rfl⟩) ?_
        simp only [DataW.weights, hu]
        show _ ∈ DataW.weightsEach Tryd.prog [f0.type, f1.type] [D0 i, D1 i]
        simp only [DataW.weightsEach, List.mem_append]
        refine .inr (.inl ?_)
        rw [hd]
        simp [DataW.weights]
theorem reach_le {l : Prs} (h : ∀ q ∈ l, q.2.size ≤ reachBytes) : ∀ p ∈ l, p.2.size ≤ 140737488351232 := fun p hp => by
  have := h p hp
  unfold reachBytes at this
  omega
end Go.Proofs.YthbemfpoanmjcaaDoor
