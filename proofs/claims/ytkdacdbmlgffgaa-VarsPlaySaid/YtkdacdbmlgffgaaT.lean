import Derived.Test.YtkdacdbmlgffgaaS
import Derived.Deep.Onto
namespace Go.Proofs.Ytkdacdbmlgffgaa
open Go.RowKit
set_option linter.unusedVariables false

/-! The reference's own set of variables. -/
theorem filter_snoc {L : List Pr} {k : Nat} (h : k < L.length) (x : Bs) : (L.take (k + 1)).filter (fun p => decide (p.key ≠ x)) = (L.take k).filter (fun p => decide (p.key ≠ x)) ++ (if L[k].key = x then [] else [L[k]]) := by
  rw [List.take_add_one, List.getElem?_eq_getElem h, List.filter_append]
  congr 1
  by_cases e : L[k].key = x <;> simp [e]
theorem Row.nil (w : World) (B : Nat) : Row w B (.slice none 0 0) [] := World.ownsRow_nil _ _ _ _
set_option maxRecDepth 100000 in
set_option maxHeartbeats 4000000 in
theorem RefUnset_any (g : Nat) (v : Value) (L : List Pr) (x : ByteArray) (B : Nat) (w : World) (hL : L.length ≤ 50000) (hr : Ris L) (hB : B ≤ w.heap.size) (hV : VAt w 29 B g v L) :
    Calls Try.prog 9 #[.pointer (some ⟨g, 0, none⟩), .string x] w fun e w' => e = .returned (.tuple #[]) ∧ Moved 29 B g v (unsetL L x.data.toList) w w' := by
  have HU := Lib.hid (filter_unset hr x.data.toList)
  have HV := Lib.hid hV
  have hlI : (L.length : Int) ≤ 50000 := by omega
  have hc := hV.cell
  have HLT := Lib.hid hV.lt
  obtain ⟨s0, c0, hf0⟩ : ∃ s c, v = .slice s L.length c := by
    rcases hV.row.form with ⟨rfl, rfl⟩ | ⟨b, cap, rfl, _⟩ <;> exact ⟨_, _, rfl⟩
  subst hf0
  have HC : Hid (∀ i (h : i < L.length), ∃ b, s0 = some ⟨b, 0, none⟩ ∧ b < w.heap.size ∧ w.cell? ⟨b, i * 2, none⟩ = some (.string L[i].n) ∧ w.cell? ⟨b, i * 2 + 1, none⟩ = some (.string L[i].v)) := by
    intro i hi
    rcases hV.row.form with ⟨_, h⟩ | ⟨b, cap, h, h1, h2, _, _, hcells, _⟩
    · rw [h] at hi; simp at hi
    · injection h with h3 _ _
      exact ⟨b, h3, h2, hcells i hi⟩
  clear hV hr
  go_enter Try.func9, Try.ntmps9
  go_wp2_with fail
  go_loopw [4, 5] (fun o i wr => ∃ (k : Nat) (ov : Value), k ≤ L.length ∧ ov = o ∧ i = .int .i64 k ∧ Hid (Row wr w.heap.size ov ((L.take k).filter fun p => decide (p.key ≠ x.data.toList))) ∧ Hid (Below w.heap.size w wr)) (fun _ i _ => L.length - (intOf i).toNat)
  case atStart => exact ⟨0, _, by omega, rfl, rfl, (by rw [List.take_zero]; exact Row.nil _ _), Below.refl _ _⟩
  case round =>
    obtain ⟨k, ov, hk, rfl, rfl, HR, HB⟩ := hrel
    have hcr := (HB.out.cell (p := ⟨g, 0, none⟩) HLT.out).trans hc
    by_cases hlt : k < L.length
    · have hltI : (k : Int) < (L.length : Int) := by omega
      have hk0 : (0 : Int) ≤ (k : Int) := by omega
      obtain ⟨b, rfl, hbl, q1, q2⟩ := HC.out k hlt
      have p1 := (HB.out.cell (p := ⟨b, k * 2, none⟩) hbl).trans q1
      have p2 := (HB.out.cell (p := ⟨b, k * 2 + 1, none⟩) hbl).trans q2
      have ad := add2 b k
      have hs := filter_snoc hlt x.data.toList
      by_cases he : L[k].key = x.data.toList
      · rw [if_pos he, List.append_nil] at hs
        have HR2 : Hid (Row wr w.heap.size ov ((L.take (k + 1)).filter fun p => decide (p.key ≠ x.data.toList))) := by rw [hs]; exact HR.out
        have hne : (L[k].n.toList == x.toList) = true := by
          rw [Lib.toList_data, Lib.toList_data]; simpa [Pr.key] using he
        clear hs q1 q2 he
        obtain ⟨s1, hs1⟩ : ∃ s, L[k].n = s := ⟨_, rfl⟩
        rw [hs1] at p1 hne
        clear hs1 p2
        go_wp2_with fail
        exact ⟨⟨k + 1, _, by omega, rfl, by go_num, HR2.out, HB.out⟩, by simp [intOf]; omega⟩
      · rw [if_neg he] at hs
        have hne : (L[k].n.toList == x.toList) = false := by
          rw [Lib.toList_data, Lib.toList_data]; simpa [Pr.key] using he
        obtain ⟨p, hp⟩ : ∃ p, L[k] = p := ⟨_, rfl⟩
        rw [hp] at p1 p2 hne hs
        have HON := Lib.hid (One.new wr p)
        have HAL := Lib.hid ((Below.refl wr.heap.size wr).alloc (Nat.le_refl _) (.cells #[.string p.n, .string p.v] 54))
        have hfl : ((L.take k).filter fun p => decide (p.key ≠ x.data.toList)).length ≤ 50000 := Nat.le_trans (List.length_filter_le _ _) (by rw [List.length_take]; omega)
        obtain ⟨v3, w3, h1, h2, h3, h4⟩ := append_pair (wr.alloc (.cells #[.string p.n, .string p.v] 54)) w.heap.size ov _ (by omega) (HR.out.only (S := fun _ => False) (Only.of_below HAL.out) (fun _ _ h => h)) (Nat.le_trans HB.out.size HAL.out.size) wr.heap.size 1 p HON.out 24
        rw [← hs] at h2
        have HR3 := Lib.hid h2
        have HB3 : Hid (Below w.heap.size w w3) := (HB.out.trans (HAL.out.mono HB.out.size)).grown h3 (Nat.le_trans HB.out.size HAL.out.size) (fun j hj => (HR.out.lt j hj).1)
        obtain ⟨s1, hs1⟩ : ∃ s, p.n = s := ⟨_, rfl⟩
        obtain ⟨s2, hs2⟩ : ∃ s, p.v = s := ⟨_, rfl⟩
        rw [hs1] at p1 h1 hne
        rw [hs2] at p2 h1
        clear hs hp he q1 q2 h2 h3 h4 hs1 hs2 hfl HON HAL
        go_wp2_with (at_builtin; refine wpList_run_append _ rfl _ _ 24 24 rfl _ _ rfl rfl h1 ?_)
        exact ⟨⟨k + 1, v3, by omega, rfl, by go_num, HR3.out, HB3.out⟩, by simp [intOf]; omega⟩
    · have hge : ¬ (k : Int) < (L.length : Int) := by omega
      have hfull : (L.take k).filter (fun p => decide (p.key ≠ x.data.toList)) = unsetL L x.data.toList := by rw [List.take_of_length_le (by omega)]; exact HU.out
      rw [hfull] at HR
      have hfr := World.frozen?_of_block (HB.out.block g HLT.out) (a := ⟨g, 0, none⟩)
      have hf0 := HV.out.free
      rw [hf0] at hfr
      have HP : Hid (VAt (wr.setCell ⟨g, 0, none⟩ ov) 29 B g ov (unsetL L x.data.toList) ∧ Only (foot g (.slice s0 L.length c0)) w (wr.setCell ⟨g, 0, none⟩ ov)) := by
        have hb : wr.heap[g]? = some (.cells #[.slice s0 L.length c0] 29 (0, 0)) := (HB.out.block g HLT.out).trans HV.out.blk
        have hne : ov.ownBlock ≠ some g := fun e => by have := (HR.out.lt _ e).1; have := HLT.out; omega
        refine ⟨⟨?_, ?_, HV.out.le, hne⟩, ?_⟩
        · have := heap_setCell_same wr g 0 _ 29 ov hb
          simpa using this
        · exact Row.only (S := fun i => i = g) (World.ownsRow.mono HR.out hB) ((Only.refl (fun i => i = g) wr).set (g := g) (.inl rfl) 0 ov) (fun j hj e => hne (by rw [hj, e]))
        · exact (Only.of_below (S := foot g (.slice s0 L.length c0)) HB.out).set (.inl (.inl rfl)) 0 ov
      have HW : Hid (∀ j, ov.ownBlock = some j → w.heap.size ≤ j) := fun j hj => (HR.out.lt j hj).1
      clear hfull hf0
      rcases HR.out.form with ⟨rfl, h0⟩ | ⟨b2, cap2, rfl, _⟩
      · clear h0
        go_wp2_with fail
        go_end0
        exact ⟨rfl, _, HP.out.1, HP.out.2, .inr HW.out⟩
      · obtain ⟨n2, hn2⟩ : ∃ n2, (unsetL L x.data.toList).length = n2 := ⟨_, rfl⟩
        rw [hn2] at HP HW ⊢
        clear hn2
        go_wp2_with fail
        go_end0
        exact ⟨rfl, _, HP.out.1, HP.out.2, .inr HW.out⟩
end Go.Proofs.Ytkdacdbmlgffgaa
