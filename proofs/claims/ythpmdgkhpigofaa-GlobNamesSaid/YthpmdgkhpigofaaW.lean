import Derived.Test.YthpmdgkhpigofaaU
namespace Go.Proofs.Ythpmdgkhpigofaa
open Go.RowKit

theorem cs_len (x : RI) : x.cs.length = 5 := rfl
theorem flatR_at : ∀ (xs : List RI) (i q : Nat) (hi : i < xs.length), q < 5 → (flatR xs)[i * 5 + q]? = xs[i].cs[q]?
  | [], i, q, hi, _ => absurd hi (by simp)
  | x :: xs, 0, q, hi, hq => by
    show (x.cs ++ flatR xs)[0 * 5 + q]? = x.cs[q]?
    rw [List.getElem?_append_left (by rw [cs_len]; omega), Nat.zero_mul, Nat.zero_add]
  | x :: xs, i + 1, q, hi, hq => by
    show (x.cs ++ flatR xs)[(i + 1) * 5 + q]? = _
    rw [List.getElem?_append_right (by rw [cs_len]; omega), cs_len, show (i + 1) * 5 + q - 5 = i * 5 + q by omega]
    exact flatR_at xs i q (by simpa using hi) hq
theorem flatR_len (xs : List RI) : (flatR xs).length = xs.length * 5 := by
  unfold flatR
  induction xs with
  | nil => rfl
  | cons x xs ih => rw [List.flatMap_cons, List.length_append, ih, cs_len]; simp; omega

theorem its_of {w w' : World} {v : Value} {xs : List RI} (hown : w'.ownsRow w.heap.size 59 5 v xs.length (flatR xs)) (hok : ∀ x ∈ xs, x.Ok w') :
    ∃ A C, v = .slice A xs.length C ∧ Its w' A xs := by
  by_cases hn : 0 < xs.length
  · obtain ⟨g, cap, rfl, _⟩ := hown.form hn
    refine ⟨_, _, rfl, fun _ => ⟨g, rfl, (World.ownsRow.lt hown g rfl).2, fun i hi => ⟨fun q hq => ?_, hok _ (List.getElem_mem hi)⟩⟩⟩
    rw [World.ownsRow.cellAt hown (i * 5 + q) (by omega), flatR_at xs i q hi hq]
  · rcases hown.2 with ⟨h1, _⟩ | ⟨g, cap, cur, h1, _⟩
    · exact ⟨none, 0, by rw [h1]; congr 1; omega, fun h => absurd h hn⟩
    · exact ⟨_, cap, h1, fun h => absurd h hn⟩

set_option maxRecDepth 100000 in
set_option maxHeartbeats 1000000 in
theorem RefMatch_any (p s : ByteArray) (w : World) (hp : p.size ≤ 100000) (hs : s.size ≤ 100000) :
    Calls Try.prog 12 #[.string p, .string s] w fun e w' => e = .returned (.bool (matchB p s)) ∧ Below w.heap.size w w' := by
  go_enter Try.func12, Try.ntmps12
  go_wp2_with fail
  refine (items_core p _ hp _ rfl).mono ?_
  rintro e w1 ⟨v, xs, rfl, hown, hok, hsem, hlen, hB⟩
  obtain ⟨A, C, rfl, hI⟩ := its_of hown hok
  have HS := Lib.hid hsem
  have HB1 := Lib.hid hB
  have HI := Lib.hid hI
  clear hown hok hsem hB hI
  go_wp2_with fail
  refine (fronts_core s w1 A C xs _ hs hlen HS HI).mono ?_
  rintro e w2 ⟨g, rfl, hc, hB2⟩
  have HB2 : Hid (Below w.heap.size w w2) := HB1.out.trans (hB2.mono HB1.out.size)
  have a1 := addn g s.size
  have hV : Hid (dp s (pcs p (p.size + 1) 0 true) xs.length s.size = matchB p s) := by
    unfold Hid dp matchB
    rw [List.take_of_length_le (by rw [← HS.out]; simp)]
  rw [hV.out] at hc
  clear hB2
  go_wp2_with fail
  go_ret
  exact ⟨rfl, HB2.out⟩

set_option maxRecDepth 100000 in
set_option maxHeartbeats 1000000 in
theorem matches_walk (p s : ByteArray) (_hp : p.size ≤ maxLen) (_hs : s.size ≤ maxLen) (w : World) :
    Calls Try.prog 3 #[.string p, .string s] w fun e w' => e = .returned (.bool true) ∧ Below w.heap.size w w' := by
  by_cases h1 : p.size ≤ 60
  · by_cases h2 : s.size ≤ 60
    · go_enter Try.func3, Try.ntmps3
      go_wp2_with fail
      refine (alive_any _).mono ?_
      rintro e w1 ⟨rfl, hB1⟩
      go_wp2_with fail
      refine (Match_b _ _ _ (by omega) (by omega)).mono ?_
      rintro e w2 ⟨rfl, hB2⟩
      go_wp2_with fail
      refine (RefMatch_any _ _ _ (by omega) (by omega)).mono ?_
      rintro e w3 ⟨rfl, hB3⟩
      have HB := Lib.hid ((hB1.trans (hB2.mono hB1.size)).trans (hB3.mono (hB1.trans (hB2.mono hB1.size)).size))
      clear hB1 hB2 hB3
      cases matchB p s
      · go_wp2_with fail
        go_ret
        exact ⟨rfl, HB.out⟩
      · go_wp2_with fail
        go_ret
        exact ⟨rfl, HB.out⟩
    · have h2' : (60 : Int) < (s.size : Int) := by omega
      go_enter Try.func3, Try.ntmps3
      go_wp2_with (go_at_call 10; refine (alive_any _).mono ?_; rintro e w1 ⟨rfl, hB1⟩)
      go_ret
      exact ⟨rfl, hB1⟩
  · have h1' : (60 : Int) < (p.size : Int) := by omega
    go_enter Try.func3, Try.ntmps3
    go_wp2_with (go_at_call 10; refine (alive_any _).mono ?_; rintro e w1 ⟨rfl, hB1⟩)
    go_ret
    exact ⟨rfl, hB1⟩
end Go.Proofs.Ythpmdgkhpigofaa
