import Derived.Test.YtpgaeldjiiaoiaaXG
namespace Go.Proofs.Ytpgaeldjiiaoiaa
open Go.RowKit
set_option linter.unusedVariables false

theorem ends_le {s : ByteArray} {P : List It} {n : Nat} : ∀ j ∈ ends s P (n + 1), j ≤ n := by
  intro j hj
  unfold ends at hj
  have := List.mem_range.1 (List.mem_filter.1 hj).1
  omega
theorem ends_len (s : ByteArray) (P : List It) (n : Nat) : (ends s P n).length ≤ n := by
  unfold ends; exact Nat.le_trans (List.length_filter_le _ _) (by simp)
theorem pickE_le {l : List Nat} {n : Nat} (h : ∀ j ∈ l, j ≤ n) (most : Bool) : pickE l most ≤ n := by
  unfold pickE
  cases l with
  | nil => cases most <;> simp
  | cons a t =>
    cases most with
    | false => exact h a (List.mem_cons_self ..)
    | true =>
      simp only [if_true]
      rw [List.getLastD_eq_getLast?, List.getLast?_eq_some_getLast (by simp : a :: t ≠ [])]
      exact h _ (List.getLast_mem _)
/-- How much is taken off. -/
def offK (s : ByteArray) (P : List It) (most : Bool) : Nat := pickE (ends s P (s.size + 1)) most
theorem offK_le (s : ByteArray) (P : List It) (most : Bool) : offK s P most ≤ s.size := pickE_le (fun j hj => ends_le j hj) most
set_option maxRecDepth 100000 in
set_option maxHeartbeats 2000000 in
theorem Front_any (s p : ByteArray) (most : Bool) (w : World) (hp : p.size ≤ 100000) (hs : s.size ≤ 100000) :
    Calls Try.prog 7 #[.string s, .string p, .bool most] w fun e w' => e = .returned (.string (s.extract (offK s (pat p) most) s.size)) ∧ Below w.heap.size w w' := by
  have HH := Lib.hid (fun w => Heads_any p s w hp hs)
  have hlen := ends_len s (pat p) (s.size + 1)
  have hle := offK_le s (pat p) most
  have HC := Lib.hid (fun (r : Value) (B : Nat) (w : World) (h : Ints w r B (ends s (pat p) (s.size + 1))) => choose_any B r _ most w (by omega) h)
  rw [show pickE (ends s (pat p) (s.size + 1)) most = offK s (pat p) most from rfl] at HC
  obtain ⟨k, hk⟩ : ∃ k, offK s (pat p) most = k := ⟨_, rfl⟩
  rw [hk] at HC hle ⊢
  have h1 : (k : Int) ≤ (s.size : Int) := by omega
  have h0 : (0 : Int) ≤ (k : Int) := by omega
  clear hlen hk
  go_enter Try.func7, Try.ntmps7
  go_wp2_with fail
  refine (HH.out _).mono ?_
  rintro e w1 ⟨⟨r, B, rfl, hr⟩, hB1⟩
  have HB1 := Lib.hid hB1
  have HR := Lib.hid hr
  clear hB1 hr
  simp only []
  go_wp2_with fail
  refine (HC.out r B _ HR.out).mono ?_
  rintro e w2 ⟨rfl, h⟩
  obtain rfl := h.symm
  simp only []
  go_wp2_with fail
  go_ret
  exact ⟨rfl, HB1.out⟩
/-! The reference's own reckoning. -/
def endsF (f : Nat → Bool) (k : Nat) : List Nat := (List.range k).filter f
def offZ (l : List Nat) (most : Bool) : Int := match l with | [] => -1 | _ => (pickE l most : Nat)
theorem endsF_snoc (f : Nat → Bool) (k : Nat) : endsF f (k + 1) = endsF f k ++ (if f k then [k] else []) := by
  unfold endsF
  rw [List.range_succ, List.filter_append]
  congr 1
  by_cases h : f k = true <;> simp [h]
theorem offZ_neg (l : List Nat) (most : Bool) : offZ l most < 0 ↔ l = [] := by
  cases l with
  | nil => simp [offZ]
  | cons a t => simp [offZ]
theorem offZ_snoc (l : List Nat) (k : Nat) (most : Bool) : offZ (l ++ [k]) most = if l = [] ∨ most = true then (k : Int) else offZ l most := by
  cases l with
  | nil => cases most <;> simp [offZ, pickE]
  | cons a t =>
    cases most with
    | false => simp [offZ, pickE]
    | true =>
      have h : (a :: (t ++ [k])).getLast? = some k := by rw [← List.cons_append, List.getLast?_append]; rfl
      simp [offZ, pickE, List.getLastD_eq_getLast?, h]
set_option maxRecDepth 100000 in
set_option maxHeartbeats 4000000 in
theorem off_any (g n C : Nat) (f : Nat → Bool) (most : Bool) (w : World) (hn : n ≤ 200000) (hR : BR w g n f) :
    Calls Try.prog 17 #[.slice (some ⟨g, 0, none⟩) n C, .bool most] w fun e w' => e = .returned (.int .i64 (offZ (endsF f n) most)) ∧ w' = w := by
  have HR := Lib.hid hR
  have hl1 : (n : Int) ≤ 200000 := by omega
  obtain ⟨X, hX⟩ : ∃ X, offZ (endsF f n) most = X := ⟨_, rfl⟩
  rw [hX]
  have HX := Lib.hid hX
  clear hR hX
  go_enter Try.func17, Try.ntmps17
  go_wp2_with fail
  go_loop [5, 6] (fun z i => ∃ (k : Nat) (y : Int), k ≤ n ∧ i = .int .i64 k ∧ z = .int .i64 y ∧ Hid (y = offZ (endsF f k) most)) (fun _ i => n - (intOf i).toNat)
  case atStart => exact ⟨0, -1, by omega, rfl, rfl, rfl⟩
  case round =>
    obtain ⟨k, y, hk, rfl, rfl, HY⟩ := hrel
    by_cases hlt : k < n
    · have hltI : (k : Int) < (n : Int) := by omega
      have h0 : (0 : Int) ≤ (k : Int) := by omega
      have hc := HR.out.cell hlt
      have hsn := endsF_snoc f k
      have hoz := offZ_snoc (endsF f k) k most
      have hng := offZ_neg (endsF f k) most
      rw [← HY.out] at hng hoz
      obtain ⟨b, hb⟩ : ∃ b, f k = b := ⟨_, rfl⟩
      rw [hb] at hc hsn
      cases b with
      | false =>
        have HY2 : Hid (y = offZ (endsF f (k + 1)) most) := by rw [Hid, hsn]; simpa using HY.out
        clear hsn hoz hng hb
        go_wp2_with fail
        exact ⟨⟨k + 1, y, by omega, by go_num, rfl, HY2.out⟩, by simp [intOf]; omega⟩
      | true =>
        by_cases hy : y < 0
        · have HY2 : Hid ((k : Int) = offZ (endsF f (k + 1)) most) := by rw [Hid, hsn, if_pos rfl, hoz, if_pos (.inl (hng.1 hy))]
          clear hsn hoz hng hb
          go_wp2_with fail
          exact ⟨⟨k + 1, k, by omega, by go_num, rfl, HY2.out⟩, by simp [intOf]; omega⟩
        · have hy' : decide (y < 0) = false := decide_eq_false hy
          cases most with
          | true =>
            have HY2 : Hid ((k : Int) = offZ (endsF f (k + 1)) true) := by rw [Hid, hsn, if_pos rfl, hoz, if_pos (.inr rfl)]
            clear hsn hoz hng hb
            go_wp2_with fail
            exact ⟨⟨k + 1, k, by omega, by go_num, rfl, HY2.out⟩, by simp [intOf]; omega⟩
          | false =>
            have HY2 : Hid (y = offZ (endsF f (k + 1)) false) := by rw [Hid, hsn, if_pos rfl, hoz, if_neg (by rintro (h | h); exact hy (hng.2 h); cases h)]
            clear hsn hoz hng hb
            go_wp2_with fail
            exact ⟨⟨k + 1, y, by omega, by go_num, rfl, HY2.out⟩, by simp [intOf]; omega⟩
    · have hltI : ¬ (k : Int) < (n : Int) := by omega
      obtain rfl : k = n := by omega
      have HE : Hid (y = X) := HY.out.trans HX.out
      go_wp2_with fail
      go_ret
      exact ⟨by rw [HE.out]; rfl, rfl⟩
end Go.Proofs.Ytpgaeldjiiaoiaa
