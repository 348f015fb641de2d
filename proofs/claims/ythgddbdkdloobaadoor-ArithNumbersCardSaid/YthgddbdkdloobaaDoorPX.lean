import Derived.Test.YthgddbdkdloobaaDoorPE
import Derived.Deep.SlicePairs
import Derived.ChangeArms
namespace Go.Proofs.YthgddbdkdloobaaDoor
open Go.RowKit Go.ChangeShapes Go.WideShapes
set_option linter.unusedVariables false

theorem PV.below {w w' : World} {pv : Value} {l : Prs} (h : PV w.heap.size w pv l) (hB : Below w.heap.size w w') : PV w'.heap.size w' pv l := by
  refine ⟨h.len, h.sz, ?_⟩
  have hs := hB.size
  rcases h.at' with h1 | ⟨b, off, cap, h1, h2, h3, h4⟩
  · exact .inl h1
  · refine .inr ⟨b, off, cap, h1, by omega, by omega, fun k hk => ?_⟩
    rw [hB.cell (p := ⟨b, off + k * 2, none⟩) h2, hB.cell (p := ⟨b, off + k * 2 + 1, none⟩) h2]
    exact h4 k hk
theorem PV.nil (w : World) : PV w.heap.size w (.slice none 0 0) [] := ⟨by simp, by simp, .inl ⟨none, 0, rfl, rfl⟩⟩
theorem PV.form {B : Nat} {w : World} {pv : Value} {l : Prs} (h : PV B w pv l) : ∃ o c, pv = .slice o l.length c := by
  rcases h.at' with ⟨o, c, h1, h2⟩ | ⟨b, off, cap, h1, _⟩
  · exact ⟨o, c, by rw [h1, h2]; rfl⟩
  · exact ⟨_, _, h1⟩
theorem size_max {s : ByteArray} (h : s.size ≤ maxLen) : s.size ≤ 9223372036854775807 := by unfold maxLen at h; omega
theorem u22 : Tryd.prog.underlying 22 = some (.slice 35) := by kernel_rfl
theorem u9 : Tryd.prog.underlying 9 = some .string := by kernel_rfl
theorem trod_str {H : Type} {enc : TypeId × Value → H} {P : Program} {w : World} {base : Nat} {spare : Nat → Bool} {held : Bool} {fuel t : Nat} {v : Value} {x : DataW H × List MemPlace} (ht : P.underlying t = some .string) (h : DataW.trod enc P w base spare held fuel t [v] = some x) :
    ∃ s : ByteArray, v = .string s ∧ s.size ≤ maxLen := by
  obtain ⟨s, h1, h2, h3⟩ := DataW.trod_string ht h
  refine ⟨s, ?_, h3⟩
  injection h1
theorem pair_form : ∃ f0 f1 : Field, Tryd.prog.underlying 35 = some (.struct #[f0, f1]) ∧ f0.offset = 0 ∧ f1.offset = 1 ∧ f0.type = 9 ∧ f1.type = 9 := by
  have h : (Tryd.prog.underlying 35).map (fun t => match t with | .struct fs => some (fs.toList.map fun f => (f.type, f.offset)) | _ => none) = some (some [(9, 0), (9, 1)]) := by kernel_rfl
  obtain ⟨t, ht, h2⟩ := Option.map_eq_some_iff.1 h
  rw [ht]
  cases t <;> simp at h2
  rename_i fs
  obtain ⟨l⟩ := fs
  match l, h2 with
  | [f0, f1], h2 =>
    simp at h2
    exact ⟨f0, f1, rfl, h2.1.2, h2.2.2, h2.1.1, h2.2.1⟩
/-- A slice of pairs, opened for the walk. -/
theorem open_prs {H : Type} {enc : TypeId × Value → H} {base : Nat} {W : World} {v : Value} {d : DataW H} {p : List MemPlace}
    (hv : Value.okWide Tryd.prog W .any base 22 v) (h : DataW.Trod enc Tryd.prog W 0 (fun _ => true) true 22 v d p) :
    ∃ l : Prs, PV W.heap.size W v l := by
  obtain ⟨a0, len, cap, rfl⟩ := okWide_slice u22 hv
  obtain ⟨fuel, hf⟩ := h
  obtain ⟨f0, f1, hu, o0, o1, t0, t1⟩ := pair_form
  have hc : Tryd.prog.cellsOf 35 = 2 := by kernel_rfl
  have c9 : Tryd.prog.cellsOf 9 = 1 := by kernel_rfl
  have c0 : Tryd.prog.cellsOf f0.type = 1 := by rw [t0]; exact c9
  have c1 : Tryd.prog.cellsOf f1.type = 1 := by rw [t1]; exact c9
  rcases Go.Deep.open_slice_pairs u22 hu hc o0 o1 c0 c1 hf with ⟨hcs, hx⟩ | ⟨a, len', cap', m, n, V0, V1, D0, D1, P0, P1, hcs, _, hl, hm, hmm, hx, hcell⟩
  · simp [Value.cells] at hcs
    obtain ⟨rfl, rfl, rfl⟩ := hcs
    exact ⟨[], by simp, by simp, .inl ⟨none, 0, rfl, rfl⟩⟩
  · simp [Value.cells] at hcs
    obtain ⟨rfl, rfl, rfl⟩ := hcs
    rw [if_pos rfl] at hmm
    have each : ∀ i, i < len → ∃ q : ByteArray × ByteArray, W.cell? (a.add (i * 2)) = some (.string q.1) ∧ W.cell? (a.add (i * 2 + 1)) = some (.string q.2) ∧ q.2.size ≤ maxLen := by
      intro i hi
      obtain ⟨h1, h2, h3, h4⟩ := hcell i (by omega)
      rw [t0] at h3
      rw [t1] at h4
      obtain ⟨s0, e0, _⟩ := trod_str u9 h3
      obtain ⟨s1, e1, z1⟩ := trod_str u9 h4
      exact ⟨(s0, s1), by rw [h1, e0], by rw [h2, e1], z1⟩
    obtain ⟨q, hq⟩ := Go.Deep.choose_lt each
    have hlen : ((List.range len).map q).length = len := by simp
    by_cases h0 : len = 0
    · subst h0
      exact ⟨[], by simp, by simp, .inl ⟨some a, cap, rfl, rfl⟩⟩
    · obtain ⟨h1, h2, h3⟩ := hq 0 (by omega)
      have hb : a.block < W.heap.size := cell_lt (p := a.add (0 * 2)) h1
      have hs : a.spot = none := World.cell?_spot (a := a) (by simpa [Addr.add] using h1)
      obtain ⟨b, off, sp⟩ := a
      simp only at hs
      subst hs
      have had : ∀ k, (⟨b, off, none⟩ : Addr).add k = ⟨b, off + k, none⟩ := by
        intro k
        unfold Addr.add
        split <;> simp_all
      refine ⟨(List.range len).map q, by rw [hlen]; unfold maxLen at hm; omega, ?_, .inr ⟨b, off, cap, by rw [hlen], hb, by simp only at hb; omega, ?_⟩⟩
      · intro p hp
        obtain ⟨i, hi, rfl⟩ := List.mem_map.1 hp
        exact size_max (hq i (List.mem_range.1 hi)).2.2
      · intro k hk
        rw [hlen] at hk
        obtain ⟨g1, g2, _⟩ := hq k hk
        rw [had] at g1 g2
        have e : ((List.range len).map q)[k]'(by rw [hlen]; exact hk) = q k := by simp
        rw [e, Nat.add_assoc]
        exact ⟨g1, g2⟩
/-! What every law begins with. -/
theorem num_any (c : Int) (w : World) : Calls Tryd.prog 15 #[.int .i64 c] w fun e w' => e = .returned (.int .i64 c) ∧ w' = w := by
  go_enter Tryd.func15, Tryd.ntmps15
  go_wp2_with fail
  go_ret
  exact ⟨rfl, rfl⟩
def aliveS : ByteArray := ⟨#[49, 32, 43, 32, 50, 32, 42, 32, 51]⟩
theorem alive_val : evalL false aliveS.data.toList (Vl []) = (7, 0) := by decide +kernel
set_option maxRecDepth 100000 in
theorem alive_any (w : World) : Calls Tryd.prog 12 #[] w fun e w' => e = .returned (.bool true) ∧ Below w.heap.size w w' := by
  have h := Eval_any aliveS [] (.slice none 0 0) w (by decide) (PV.nil w)
  rw [alive_val] at h
  have HE : Hid (Calls Tryd.prog 13 #[.string ⟨#[49, 32, 43, 32, 50, 32, 42, 32, 51]⟩, .slice none 0 0] w fun e w' => e = .returned (.tuple #[.int .i64 7, .int .i64 0]) ∧ Below w.heap.size w w') := h
  clear h
  go_enter Tryd.func12, Tryd.ntmps12
  go_wp2_with fail
  refine HE.out.mono ?_
  rintro e w1 ⟨rfl, hB⟩
  have HB := Lib.hid hB
  clear hB
  go_wp2_with fail
  refine (num_any _ _).mono ?_
  rintro e w2 ⟨rfl, h⟩
  obtain rfl := h.symm
  go_wp2_with fail
  go_ret
  exact ⟨rfl, HB.out⟩
set_option maxRecDepth 100000 in
set_option maxHeartbeats 2000000 in
theorem evals_walk (s : ByteArray) (hs : s.size ≤ maxLen) (pv : Value) (l : Prs) (W : World) (hP : PV W.heap.size W pv l) :
    Calls Tryd.prog 3 #[.string s, pv] W fun e W' => e = .returned (.bool true) ∧ Below W.heap.size W W' := by
  have hs2 := size_max hs
  obtain ⟨o, c, rfl⟩ := hP.form
  have HP := Lib.hid hP
  have hll : (l.length : Int) ≤ 9223372036854775807 := by have := hP.len; omega
  obtain ⟨b1, hb1⟩ : ∃ b, decide ((4200 : Int) < (s.size : Int)) = b := ⟨_, rfl⟩
  obtain ⟨b2, hb2⟩ : ∃ b, decide ((600 : Int) < (s.size : Int)) = b := ⟨_, rfl⟩
  obtain ⟨b3, hb3⟩ : ∃ b, decide ((s.size : Int) < 4090) = b := ⟨_, rfl⟩
  obtain ⟨b4, hb4⟩ : ∃ b, decide ((40 : Int) < (l.length : Int)) = b := ⟨_, rfl⟩
  obtain ⟨X, hX⟩ : ∃ X, evalL false s.data.toList (Vl l) = X := ⟨_, rfl⟩
  have HEV := Lib.hid (fun (w : World) (h : PV w.heap.size w (.slice o l.length c) l) => Eval_any s l _ w hs2 h)
  have HRV := Lib.hid (fun (w : World) (h : PV w.heap.size w (.slice o l.length c) l) => RefEval_any s l _ w hs2 h)
  rw [evalL_lim] at HRV
  rw [hX] at HEV HRV
  obtain ⟨x1, x2⟩ := X
  clear hX hP hs
  cases b1 <;> cases b2 <;> cases b3 <;> cases b4
  all_goals
    go_enter Tryd.func3, Tryd.ntmps3
    go_wp2_with fail
    refine (alive_any _).mono ?_
    rintro e w1 ⟨rfl, hB1⟩
    have HB1 := Lib.hid hB1
    clear hB1
    go_wp2_with fail
    first
    | (go_ret; exact ⟨rfl, HB1.out⟩)
    | (refine (HEV.out _ (HP.out.below HB1.out)).mono ?_
       rintro e w2 ⟨rfl, hB2⟩
       have HB2 := Lib.hid (HB1.out.trans (hB2.mono HB1.out.size))
       clear hB2
       go_wp2_with fail
       refine (HRV.out _ (HP.out.below HB2.out)).mono ?_
       rintro e w3 ⟨rfl, hB3⟩
       have HB3 := Lib.hid (HB2.out.trans (hB3.mono HB2.out.size))
       clear hB3
       go_wp2_with fail
       refine (num_any _ _).mono ?_
       rintro e w4 ⟨rfl, h⟩
       obtain rfl := h.symm
       go_wp2_with fail
       go_ret
       exact ⟨rfl, HB3.out⟩)
end Go.Proofs.YthgddbdkdloobaaDoor
