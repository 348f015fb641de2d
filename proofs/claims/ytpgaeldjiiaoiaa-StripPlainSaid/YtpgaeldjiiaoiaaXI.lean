import Derived.Test.YtpgaeldjiiaoiaaXH
namespace Go.Proofs.Ytpgaeldjiiaoiaa
open Go.RowKit
set_option linter.unusedVariables false

theorem cs_len (x : RI) : x.cs.length = 5 := rfl
theorem flatR_at : ∀ (xs : List RI) (i q : Nat) (hi : i < xs.length), q < 5 → (flatR xs)[i * 5 + q]? = xs[i].cs[q]?
  | [], i, q, hi, _ => absurd hi (by simp)
  | x :: xs, 0, q, hi, hq => by
    show (x.cs ++ flatR xs)[0 * 5 + q]? = x.cs[q]?
    rw [List.getElem?_append_left (by rw [cs_len]; omega), Nat.zero_mul, Nat.zero_add]
  | x :: xs, i + 1, q, hi, hq => by
    show (x.cs ++ flatR xs)[(i + 1) * 5 + q]? = _
    rw [List.getElem?_append_right (by rw [cs_len]; omega), cs_len, show (i + 1) * 5 + q - 5 = i * 5 + q by omega]
    exact flatR_at xs i q (by simpa using hi) hq
theorem flatR_len (xs : List RI) : (flatR xs).length = xs.length * 5 := by
  unfold flatR
  induction xs with
  | nil => rfl
  | cons x xs ih => rw [List.flatMap_cons, List.length_append, ih, cs_len]; simp; omega

theorem its_of {w w' : World} {v : Value} {xs : List RI} (hown : w'.ownsRow w.heap.size 37 5 v xs.length (flatR xs)) (hok : ∀ x ∈ xs, x.Ok w') :
    ∃ A C, v = .slice A xs.length C ∧ Its w' A xs := by
  by_cases hn : 0 < xs.length
  · obtain ⟨g, cap, rfl, _⟩ := hown.form hn
    refine ⟨_, _, rfl, fun _ => ⟨g, rfl, (World.ownsRow.lt hown g rfl).2, fun i hi => ⟨fun q hq => ?_, hok _ (List.getElem_mem hi)⟩⟩⟩
    rw [World.ownsRow.cellAt hown (i * 5 + q) (by omega), flatR_at xs i q hi hq]
  · rcases hown.2 with ⟨h1, _⟩ | ⟨g, cap, cur, h1, _⟩
    · exact ⟨none, 0, by rw [h1]; congr 1; omega, fun h => absurd h hn⟩
    · exact ⟨_, cap, h1, fun h => absurd h hn⟩


theorem endsF_dp (s : ByteArray) (P : List It) (n : Nat) (h : P.length = n) : endsF (dp s P n) (s.size + 1) = ends s P (s.size + 1) := by
  unfold endsF ends; rw [h]
theorem offZ_pos {l : List Nat} {most : Bool} (h : l ≠ []) : offZ l most = (pickE l most : Nat) := by
  cases l with
  | nil => exact absurd rfl h
  | cons a t => rfl
theorem extract_all (s : ByteArray) : s.extract 0 s.size = s := by
  apply ByteArray.ext
  rw [ByteArray.data_extract]
  exact Array.extract_size
set_option maxRecDepth 100000 in
set_option maxHeartbeats 2000000 in
theorem RefFront_any (s p : ByteArray) (most : Bool) (w : World) (hp : p.size ≤ 100000) (hs : s.size ≤ 100000) :
    Calls Try.prog 8 #[.string s, .string p, .bool most] w fun e w' => e = .returned (.string (s.extract (offK s (pat p) most) s.size)) ∧ Below w.heap.size w w' := by
  have HH := Lib.hid (fun w => items_core p w hp (pat p) rfl)
  have hle := offK_le s (pat p) most
  have hall := Lib.hid (extract_all s)
  obtain ⟨l, hl⟩ : ∃ l, ends s (pat p) (s.size + 1) = l := ⟨_, rfl⟩
  have hoff : offK s (pat p) most = pickE l most := by unfold offK; rw [hl]
  rw [hoff] at hle ⊢
  have HOF : Hid (∀ n, (pat p).length = n → endsF (dp s (pat p) n) (s.size + 1) = l) := fun n h => by rw [endsF_dp s _ n h, hl]
  clear hl hoff
  go_enter Try.func8, Try.ntmps8
  go_wp2_with fail
  refine (HH.out _).mono ?_
  rintro e w1 ⟨v, xs, rfl, hown, hok, hsem, hlen, hB⟩
  obtain ⟨A, C, rfl, hI⟩ := its_of hown hok
  have HS := Lib.hid hsem
  have HB1 := Lib.hid hB
  have HI := Lib.hid hI
  have HPL : Hid ((pat p).length = xs.length) := by rw [Hid, ← hsem, List.length_map]
  clear hown hok hsem hB hI
  simp only []
  go_wp2_with fail
  refine (fronts_core s w1 A C xs (pat p) hs hlen HS HI).mono ?_
  rintro e w2 ⟨g, rfl, hF, hB2⟩
  have HB2 : Hid (Below w.heap.size w w2) := HB1.out.trans (hB2.mono HB1.out.size)
  have HR := Lib.hid (BR.of_row hF)
  clear hB2 hF
  simp only []
  go_wp2_with fail
  refine (off_any g (s.size + 1) _ _ most _ (by omega) HR.out).mono ?_
  rintro e w3 ⟨rfl, h⟩
  obtain rfl := h.symm
  rw [HOF.out _ HPL.out]
  simp only []
  by_cases hn : l = []
  · have e1 : offZ l most = -1 := by rw [hn]; rfl
    have e2 : Hid (pickE l most = 0) := by rw [Hid, hn]; cases most <;> rfl
    rw [e1]
    go_wp2_with fail
    go_ret
    exact ⟨by rw [show pickE [] most = 0 by cases most <;> rfl, hall.out]; rfl, HB2.out⟩
  · rw [offZ_pos hn]
    obtain ⟨k, hk⟩ : ∃ k, pickE l most = k := ⟨_, rfl⟩
    have HK := Lib.hid hk
    rw [hk] at hle ⊢
    have h1 : (k : Int) ≤ (s.size : Int) := by omega
    have h0 : (0 : Int) ≤ (k : Int) := by omega
    have h2 : ¬ (k : Int) < 0 := by omega
    clear hk hn
    go_wp2_with fail
    go_ret
    exact ⟨by rw [HK.out]; rfl, HB2.out⟩
end Go.Proofs.Ytpgaeldjiiaoiaa
