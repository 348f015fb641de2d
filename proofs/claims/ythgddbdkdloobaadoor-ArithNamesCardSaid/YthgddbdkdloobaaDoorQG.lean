import Derived.Test.YthgddbdkdloobaaDoorQA
namespace Go.Proofs.YthgddbdkdloobaaDoor
open Go.RowKit
set_option linter.unusedVariables false

theorem PV_new2 (w : World) (a b c d : ByteArray) (e : TypeId) (hb : b.size ≤ 9223372036854775807) (hd : d.size ≤ 9223372036854775807) :
    PV (w.alloc (.cells #[.string a, .string b, .string c, .string d] e)).heap.size (w.alloc (.cells #[.string a, .string b, .string c, .string d] e)) (.slice (some ⟨w.heap.size, 0, none⟩) 2 2) [(a, b), (c, d)] := by
  have h := heap_alloc_new w (.cells #[.string a, .string b, .string c, .string d] e)
  have hz : w.heap.size < (w.alloc (.cells #[.string a, .string b, .string c, .string d] e)).heap.size := by rw [World.size_alloc]; omega
  refine ⟨by simp, ?_, .inr ⟨w.heap.size, 0, 2, rfl, hz, by omega, fun k hk => ?_⟩⟩
  · intro p hp
    simp at hp
    rcases hp with rfl | rfl
    · exact hb
    · exact hd
  · rw [cell_of_row _ _ _ _ _ _ h, cell_of_row _ _ _ _ _ _ h]
    match k, hk with
    | 0, _ => exact ⟨rfl, rfl⟩
    | 1, _ => exact ⟨rfl, rfl⟩
theorem PV_new1 (w : World) (a b : ByteArray) (e : TypeId) (hb : b.size ≤ 9223372036854775807) :
    PV (w.alloc (.cells #[.string a, .string b] e)).heap.size (w.alloc (.cells #[.string a, .string b] e)) (.slice (some ⟨w.heap.size, 0, none⟩) 1 1) [(a, b)] := by
  have h := heap_alloc_new w (.cells #[.string a, .string b] e)
  have hz : w.heap.size < (w.alloc (.cells #[.string a, .string b] e)).heap.size := by rw [World.size_alloc]; omega
  refine ⟨by simp, ?_, .inr ⟨w.heap.size, 0, 1, rfl, hz, by omega, fun k hk => ?_⟩⟩
  · intro p hp
    simp at hp
    subst hp
    exact hb
  · rw [cell_of_row _ _ _ _ _ _ h, cell_of_row _ _ _ _ _ _ h]
    match k, hk with
    | 0, _ => exact ⟨rfl, rfl⟩
theorem Vl_last (n u v : ByteArray) : Vl [(n, u), (n, v)] = Vl [(n, v)] := by
  funext x
  unfold Vl
  congr 1
  simp only [bsl, List.map_cons, List.map_nil, look, List.foldl_cons, List.foldl_nil]
  by_cases h : n.data.toList = x
  · rw [if_pos h, if_pos h]
  · rw [if_neg h, if_neg h, if_neg h]
theorem names_val {n v : ByteArray} {m : Nat} (hm : m < 9223372036854775808) (hn : nmOk n.data.toList = true) (hv : v.data.toList = []) :
    evalL false (n.data.toList ++ 43 :: dcl m) (Vl [(n, v)]) = ((m : Int), 0) := by
  unfold nmOk at hn
  rw [decide_eq_true_iff] at hn
  obtain ⟨h0, h60, hl⟩ := hn
  have h19 := dcl_len 18 m (by omega)
  have nog : ∀ c ∈ ([] : Bs), isBl c = true := by intro c hc; cases hc
  have hsz : n.size ≤ 60 := by rw [← dlen]; exact h60
  have hp : 0 < n.data.toList.length := List.length_pos_iff.2 h0
  have hP : Atom (Vl [(n, v)]) 0 n.data.toList 0 false := atom_name (by omega) hl h60 (by
    unfold Vl
    simp only [bsl, List.map_cons, List.map_nil, look, List.foldl_cons, List.foldl_nil]
    rw [if_pos trivial, hv]
    rfl)
  have hQ : Atom (Vl [(n, v)]) 0 (dcl m) (num (dcl m)) false := atom_dig (dcl_ne m) (dcl_dig m)
  have h := two_val (op := [43]) hP hQ (by decide) nog (tail_dig (dcl_ne m) (dcl_dig m)) (by simp; omega)
  rw [num_dcl hm] at h
  have ha : ap [43] 0 (m : Int) = (wr (0 + (m : Int)), false) := by simp [ap]
  rw [ha] at h
  simp only [List.nil_append, Bool.false_eq_true, if_false] at h
  rw [Int.zero_add, wr_id (by omega) (by omega)] at h
  rw [← h]
  rfl
set_option maxRecDepth 100000 in
set_option maxHeartbeats 8000000 in
theorem names_walk (n v : ByteArray) (m : Int) (hn : n.size ≤ maxLen) (hv : v.size ≤ maxLen) (hm : -9223372036854775808 ≤ m ∧ m ≤ 9223372036854775807) (W : World) :
    Calls Tryd.prog 7 #[.string n, .string v, .int .i64 m] W fun e W' => e = .returned (.bool true) ∧ Below W.heap.size W W' := by
  by_cases c0 : (80 : Int) < (n.size : Int)
  case pos =>
    go_enter Tryd.func7, Tryd.ntmps7
    go_wp2_with fail
    refine (alive_any _).mono ?_
    rintro e w1 ⟨rfl, hB1⟩
    have HB1 := Lib.hid hB1
    clear hB1
    go_wp2_with fail
    go_ret
    exact ⟨rfl, HB1.out⟩
  by_cases c1 : (80 : Int) < (v.size : Int)
  case pos =>
    go_enter Tryd.func7, Tryd.ntmps7
    go_wp2_with fail
    refine (alive_any _).mono ?_
    rintro e w1 ⟨rfl, hB1⟩
    have HB1 := Lib.hid hB1
    clear hB1
    go_wp2_with fail
    go_ret
    exact ⟨rfl, HB1.out⟩
  by_cases c2 : m < 0
  case pos =>
    go_enter Tryd.func7, Tryd.ntmps7
    go_wp2_with fail
    refine (alive_any _).mono ?_
    rintro e w1 ⟨rfl, hB1⟩
    have HB1 := Lib.hid hB1
    clear hB1
    go_wp2_with fail
    go_ret
    exact ⟨rfl, HB1.out⟩
  obtain ⟨q, rfl⟩ : ∃ q : Nat, m = (q : Int) := ⟨m.toNat, by omega⟩
  have hq : q < 9223372036854775808 := by omega
  have c0' : (n.size : Int) ≤ 80 := by omega
  have c1' : (v.size : Int) ≤ 80 := by omega
  have c2' : (0 : Int) ≤ (q : Int) := by omega
  have h19 := dcl_len 18 q (by omega)
  have HD := Lib.hid (fun w => RefDigits_any q hq w)
  obtain ⟨S, hS⟩ : ∃ S : ByteArray, ⟨(dcl q).toArray⟩ = S := ⟨_, rfl⟩
  have hSs : S.size ≤ 19 := by rw [← hS]; exact dcl_size hq
  have hSd : S.data.toList = dcl q := by rw [← hS]
  rw [hS] at HD
  have hl := dlen n
  have HN := Lib.hid (fun w => Name_ref n w (by omega))
  have hcase : (nmOk n.data.toList = true ∧ (v.toList == []) = true ∧ evalL false (n.data.toList ++ 43 :: dcl q) (Vl [(n, v)]) = ((q : Int), 0)) ∨ (nmOk n.data.toList = true ∧ (v.toList == []) = false ∧ ∃ x e, evalL false (n.data.toList ++ 43 :: dcl q) (Vl [(n, v)]) = (x, e)) ∨ (nmOk n.data.toList = false ∧ ∃ x e, evalL false (n.data.toList ++ 43 :: dcl q) (Vl [(n, v)]) = (x, e)) := by
    cases h1 : nmOk n.data.toList with
    | false => exact .inr (.inr ⟨rfl, _, _, rfl⟩)
    | true =>
      cases h2 : (v.toList == []) with
      | false => exact .inr (.inl ⟨rfl, rfl, _, _, rfl⟩)
      | true => exact .inl ⟨rfl, rfl, names_val hq h1 (by rw [beq_iff_eq, Lib.toList_data] at h2; exact h2)⟩
  have hev : ∃ x e, evalL false (n.data.toList ++ 43 :: dcl q) (Vl [(n, v)]) = (x, e) ∧ ((nmOk n.data.toList = true ∧ (v.toList == []) = true ∧ x = (q : Int) ∧ e = 0) ∨ (nmOk n.data.toList = true ∧ (v.toList == []) = false) ∨ nmOk n.data.toList = false) := by
    rcases hcase with ⟨a, b, c⟩ | ⟨a, b, x, e, c⟩ | ⟨a, x, e, c⟩
    · exact ⟨_, _, c, .inl ⟨a, b, rfl, rfl⟩⟩
    · exact ⟨_, _, c, .inr (.inl ⟨a, b⟩)⟩
    · exact ⟨_, _, c, .inr (.inr a)⟩
  clear hcase
  obtain ⟨x, k, hx, hk⟩ := hev
  rw [← hSd] at hx
  have lS : S.data.toList.length ≤ 19 := by rw [dlen]; exact hSs
  have hx2 := hx
  rw [← Vl_last n ⟨#[49]⟩ v] at hx2
  have E1 := Lib.hid (fun (Y : ByteArray) (hY : Y.data.toList = _) (pv : Value) (w : World) (hP : PV w.heap.size w pv [(n, ⟨#[49]⟩), (n, v)]) => ev13l Y _ _ _ _ pv w hP hY (by simp at *; omega) hx2)
  have E2 := Lib.hid (fun (Y : ByteArray) (hY : Y.data.toList = _) (pv : Value) (w : World) (hP : PV w.heap.size w pv [(n, v)]) => ev14l Y _ _ _ _ pv w hP hY (by simp at *; omega) hx)
  obtain ⟨N, hN⟩ : ∃ N, nmOk n.data.toList = N := ⟨_, rfl⟩
  rw [hN] at hk HN
  have HK := Lib.hid hk
  clear hS hSd h19 hl hx hx2 lS hN hk hn hv hm
  go_enter Tryd.func7, Tryd.ntmps7
  go_wp2_with fail
  refine (alive_any _).mono ?_
  rintro e w1 ⟨rfl, hB1⟩
  have HB1 := Lib.hid hB1
  clear hB1
  simp only []
  go_wp2_with fail
  refine (HD.out _).mono ?_
  rintro e x1 ⟨rfl, h⟩
  obtain rfl := h.symm
  simp only []
  go_wp2_with fail
  refine (E1.out _ (by simp) _ _ (PV_new2 _ _ _ _ _ _ (by decide) (by omega))).mono ?_
  rintro e w2 ⟨rfl, hB2⟩
  have HB2 := Lib.hid ((HB1.out.alloc HB1.out.size _).trans (hB2.mono (by have := HB1.out.size; simp; omega)))
  clear hB2
  simp only []
  go_wp2_with fail
  refine (HD.out _).mono ?_
  rintro e x1 ⟨rfl, h⟩
  obtain rfl := h.symm
  simp only []
  go_wp2_with fail
  refine (E2.out _ (by simp) _ _ (PV_new1 _ _ _ _ (by omega))).mono ?_
  rintro e w3 ⟨rfl, hB3⟩
  have HB3 := Lib.hid ((HB2.out.alloc HB2.out.size _).trans (hB3.mono (by have := HB2.out.size; simp; omega)))
  clear hB3
  simp only []
  go_wp2_with fail
  refine (num_any _ _).mono ?_
  rintro e x1 ⟨rfl, h⟩
  obtain rfl := h.symm
  simp only []
  go_wp2_with fail
  refine (HN.out _).mono ?_
  rintro e x1 ⟨rfl, h⟩
  obtain rfl := h.symm
  simp only []
  rcases HK.out with ⟨rfl, hv, rfl, rfl⟩ | ⟨rfl, hv⟩ | rfl
  · go_wp2_with fail
    refine (num_any _ _).mono ?_
    rintro e x1 ⟨rfl, h⟩
    obtain rfl := h.symm
    simp only []
    go_wp2_with fail
    go_ret
    exact ⟨rfl, HB3.out⟩
  · go_wp2_with fail
    go_ret
    exact ⟨rfl, HB3.out⟩
  · go_wp2_with fail
    go_ret
    exact ⟨rfl, HB3.out⟩
end Go.Proofs.YthgddbdkdloobaaDoor
