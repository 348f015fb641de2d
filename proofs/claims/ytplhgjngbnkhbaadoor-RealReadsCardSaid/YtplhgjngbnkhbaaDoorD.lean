import Derived.Test.YtplhgjngbnkhbaaDoorC
import Derived.Lib.ConvBytes
import Derived.Lib.Strings
namespace Go.Proofs.YtplhgjngbnkhbaaDoor
open Go.RowKit

/-- One to fifteen digits? -/
def numB (s : ByteArray) : Bool := decide (1 ≤ s.size) && (decide (s.size ≤ 15) && (lead s == s.size))
set_option maxRecDepth 100000 in
set_option maxHeartbeats 1000000 in
theorem Number_any (s : ByteArray) (w : World) (hs : s.size ≤ 9223372036854775807) : Calls Tryd.prog 30 #[.string s, .int .i64 1, .int .i64 15] w fun e w' => e = .returned (.bool (numB s)) ∧ w' = w := by
  by_cases h1 : 1 ≤ s.size
  · by_cases h2 : s.size ≤ 15
    · have h1' : (1 : Int) ≤ (s.size : Int) := by omega
      have h2' : (s.size : Int) ≤ 15 := by omega
      have H : Hid (numB s = ((lead s : Int) == (s.size : Int))) := by
        unfold Hid numB; simp [h1, h2]; rw [Bool.eq_iff_iff]; simp; omega
      go_enter Tryd.func30, Tryd.ntmps30
      go_wp2_with (go_at_call 47; refine (Digits_any _ _ (by omega)).mono ?_; rintro e w' ⟨rfl, rfl⟩)
      go_ret
      exact ⟨by rw [H.out]; rfl, rfl⟩
    · have h2' : ¬ (s.size : Int) ≤ 15 := by omega
      have d2 : decide ((s.size : Int) ≤ 15) = false := by simp; omega
      have h1' : (1 : Int) ≤ (s.size : Int) := by omega
      have H : Hid (numB s = false) := by unfold Hid numB; simp [h2]
      go_enter Tryd.func30, Tryd.ntmps30
      go_wp2_with fail
      go_ret
      exact ⟨by rw [H.out]; rfl, rfl⟩
  · have h1' : ¬ (1 : Int) ≤ (s.size : Int) := by omega
    have d1 : decide ((1 : Int) ≤ (s.size : Int)) = false := by simp; omega
    have H : Hid (numB s = false) := by unfold Hid numB; simp [h1]
    go_enter Tryd.func30, Tryd.ntmps30
    go_wp2_with fail
    go_ret
    exact ⟨by rw [H.out]; rfl, rfl⟩

/-- The number that digits are. -/
def dval (l : List UInt8) : Nat := l.foldl (fun n c => n * 10 + (c.toNat - 48)) 0
theorem dval_snoc (l : List UInt8) (c : UInt8) : dval (l ++ [c]) = dval l * 10 + (c.toNat - 48) := by simp [dval]
theorem dval_lt (l : List UInt8) (h : ∀ c ∈ l, isDig c = true) : dval l < 10 ^ l.length := by
  obtain ⟨n, hn⟩ : ∃ n, l.length = n := ⟨_, rfl⟩
  induction n generalizing l with
  | zero => rw [List.length_eq_zero_iff.1 hn]; simp [dval]
  | succ n ih =>
    have hne : l ≠ [] := by intro e; rw [e] at hn; simp at hn
    have hl := List.dropLast_concat_getLast hne
    have h1 := ih l.dropLast (fun d hd => h d (List.dropLast_subset l hd)) (by rw [List.length_dropLast, hn]; rfl)
    have h2 := h _ (List.getLast_mem hne)
    unfold isDig at h2
    simp only [decide_eq_true_eq] at h2
    rw [List.length_dropLast, hn, Nat.add_sub_cancel] at h1
    rw [hn, ← hl, dval_snoc, Nat.pow_succ]
    omega


theorem bw_below (w : World) (e : TypeId) (s : ByteArray) : Below w.heap.size w (Lib.bytesWorld w e s) :=
  ⟨rfl, rfl, rfl, by rw [Lib.bytesWorld_size]; omega, fun j hj => Lib.bytesWorld_at_old w e s j hj⟩
theorem floatOfInt_nat (t : Nat) : floatOfInt .f64 (t : Int) = fl t := by
  unfold floatOfInt FloatKind.nearest FloatKind.encode fl
  show D.nearest _ _ _ = _
  rw [Int.natAbs_natCast, show decide ((t : Int) < 0) = false by simp]
theorem run_mul (x y r : Nat) (h : D.mul x y = some r) (w : World) : (binOp .mul 42 (.float .f64 x) (.float .f64 y)).run Tryd.prog w = .ok (.float .f64 r) w := run_float_arith w .mul 42 .f64 x y r h
theorem run_add (x y r : Nat) (h : D.add x y = some r) (w : World) : (binOp .add 42 (.float .f64 x) (.float .f64 y)).run Tryd.prog w = .ok (.float .f64 r) w := run_float_arith w .add 42 .f64 x y r h

theorem takeWhile_mem {p : UInt8 → Bool} : ∀ {l : List UInt8} {c : UInt8}, c ∈ l.takeWhile p → p c = true
  | [], c, h => by simp at h
  | a :: l, c, h => by
    rw [List.takeWhile_cons] at h
    split at h
    · rename_i ha
      rcases List.mem_cons.1 h with h | h
      · rw [h]; exact ha
      · exact takeWhile_mem h
    · simp at h
theorem numB_facts {s : ByteArray} (h : numB s = true) : 1 ≤ s.size ∧ s.size ≤ 15 ∧ ∀ c ∈ s.data.toList, isDig c = true := by
  unfold numB at h
  simp only [Bool.and_eq_true, decide_eq_true_eq, beq_iff_eq] at h
  refine ⟨h.1, h.2.1, fun c hc => ?_⟩
  have hl : (s.data.toList.takeWhile isDig).length = s.data.toList.length := by have := h.2.2; unfold lead at this; rw [this]; simp
  have he : s.data.toList.takeWhile isDig = s.data.toList := (List.takeWhile_prefix isDig).eq_of_length hl
  rw [← he] at hc
  exact takeWhile_mem hc

theorem hp_le {s p : ByteArray} (h : hp s p = true) : p.size ≤ s.size := by
  unfold hp at h; simp only [Bool.and_eq_true, decide_eq_true_eq] at h; exact h.1
/-- The word with the sign. -/
def sgw (neg : Bool) (x : Nat) : Nat := if neg then opp x else x
theorem sgw_mul {x : Nat} (h : nanB x = false) (hx : x < 18446744073709551616) : D.mul 4607182418800017408 x = some (sgw false x) ∧ D.mul 13830554455654793216 x = some (sgw true x) := by
  rw [mul_swap, mul_one' h hx, mul_swap, mul_mone h]; exact ⟨rfl, rfl⟩
theorem sgw_nan {x : Nat} (b : Bool) (h : nanB x = false) : cl (sgw b x) = sgw b x := by
  unfold cl
  cases b
  · show (if nanB x = true then _ else _) = x
    rw [h]; rfl
  · show (if nanB (opp x) = true then _ else opp x) = opp x
    have : nanB (opp x) = false := by
      unfold nanB opp at *
      rw [rg_word _ (rg_lt x)]; exact h
    rw [this]; rfl
set_option maxRecDepth 100000 in
set_option maxHeartbeats 1000000 in
theorem Of_num (s : ByteArray) (w : World) (hs : s.size ≤ 9223372036854775807) (h0 : hp s ⟨#[48, 120]⟩ = false) (h1 : hp s ⟨#[45]⟩ = false) (h2 : hp s ⟨#[43]⟩ = false) (h3 : numB s = true) :
    Calls Tryd.prog 14 #[.string s] w fun e w' => e = .returned (.tuple #[.int .u64 (sgw false (fl (dval s.data.toList))), .bool true]) ∧ Below w.heap.size w w' := by
  obtain ⟨n1, n15, hdg⟩ := numB_facts h3
  have i1 : (s.toList == [105, 110, 102]) = false := by
    rw [beq_eq_false_iff_ne]; intro e; rw [Lib.toList_data] at e; rw [e] at hdg; exact absurd (hdg 105 (by simp)) (by decide)
  have i2 : (s.toList == [110, 97, 110]) = false := by
    rw [beq_eq_false_iff_ne]; intro e; rw [Lib.toList_data] at e; rw [e] at hdg; exact absurd (hdg 110 (by simp)) (by decide)
  have H0 := Lib.hid h0
  have H1 := Lib.hid h1
  have H2 := Lib.hid h2
  have H3 := Lib.hid h3
  have HDG := Lib.hid hdg
  have hconv := Lib.run_convert_string_bytes (P := Tryd.prog) w 9 46 5 s Tryd.underlying9 Tryd.underlying46 Tryd.underlying5
  have HB := Lib.hid (bw_below w 5 s)
  have HC := Lib.hid (fun j hj => Lib.bytesWorld_cell w 5 s j hj)
  generalize Lib.bytesWorld w 5 s = W at *
  generalize grownCap w s.size 0 5 = C at *
  clear h0 h1 h2 h3 hdg
  have hb := run_bits
  go_enter Tryd.func14, Tryd.ntmps14
  go_wp2_with (first
    | (go_at_call 25; refine (CutPrefix_any s _ _).mono ?_; rw [H0.out]; rintro e w' ⟨rfl, rfl⟩)
    | (go_at_call 30; refine (Number_any s _ hs).mono ?_; rw [H3.out]; rintro e w' ⟨rfl, rfl⟩)
    | (go_at_call 27; (first | ((with_reducible refine (HasPrefix_any s ⟨#[45]⟩ _).mono ?_); rw [H1.out]) | ((with_reducible refine (HasPrefix_any s ⟨#[43]⟩ _).mono ?_); rw [H2.out])); rintro e w' ⟨rfl, rfl⟩))
  go_loop [7, 48] (fun a b => ∃ k : Nat, k ≤ s.size ∧ b = .int .i64 k ∧ a = .float .f64 (fl (dval (s.data.toList.take k)))) (fun _ b => s.size - (intOf b).toNat)
  case atStart => exact ⟨0, by omega, rfl, by rw [List.take_zero]; simp [dval, fl_zero]⟩
  case round =>
    obtain ⟨k, hk, rfl, rfl⟩ := hrel
    have hlen : (s.data.toList.take k).length = k := by simp; omega
    have hdv := dval_lt (s.data.toList.take k) (fun c hc => HDG.out c (List.mem_of_mem_take hc))
    rw [hlen] at hdv
    by_cases hlt : k < s.size
    · have hp : 10 ^ k ≤ 10 ^ 14 := Nat.pow_le_pow_right (by omega) (by omega)
      have hltI : (k : Int) < (s.size : Int) := by omega
      have hc := HC.out k hlt
      have hdig := HDG.out (gb s k) (by
        unfold gb
        rw [List.getD_eq_getElem?_getD, List.getElem?_eq_getElem (by simpa using hlt)]
        exact List.getElem_mem _)
      have hsn : s.data.toList.take (k + 1) = s.data.toList.take k ++ [gb s k] := by
        unfold gb
        rw [List.take_succ_eq_append_getElem (by simpa using hlt), List.getD_eq_getElem?_getD, List.getElem?_eq_getElem (by simpa using hlt)]; rfl
      have HN : Hid (dval (s.data.toList.take (k + 1)) = dval (s.data.toList.take k) * 10 + ((gb s k).toNat - 48)) := by unfold Hid; rw [hsn, dval_snoc]
      change W.cell? _ = some (.int .u8 (gb s k).toNat) at hc
      unfold isDig at hdig
      simp only [decide_eq_true_eq] at hdig
      generalize gb s k = c at *
      generalize dval (s.data.toList.take k) = t at *
      have ht : t < 100000000000000 := Nat.lt_of_lt_of_le hdv hp
      have hm := run_mul (fl t) (fl 10) _ (mul_fl (by omega) (by omega) (by omega))
      have hd := run_add (fl (t * 10)) (fl (c.toNat - 48)) _ (add_fl (by omega) (by omega) (by omega))
      rw [fl_ten] at hm
      have hcv := floatOfInt_nat (c.toNat - 48)
      have hw : IntKind.u8.wrap ((c.toNat : Int) - 48) = ((c.toNat - 48 : Nat) : Int) := by unfold IntKind.wrap; simp [IntKind.bits, IntKind.signed]; omega
      clear hsn hdv hp hlen ht hdig
      generalize c.toNat - 48 = d at *
      go_wp2_with fail
      exact ⟨⟨k + 1, by omega, by go_num, by rw [HN.out]⟩, by simp [intOf]; omega⟩
    · have hge : ¬ ((k : Int) < (s.size : Int)) := by omega
      have hkn : k = s.size := by omega
      have HT : Hid (dval (s.data.toList.take k) = dval s.data.toList) := by unfold Hid; rw [List.take_of_length_le (by simp; omega)]
      rw [HT.out] at hdv
      have hd2 : dval s.data.toList < 1000000000000000 := Nat.lt_of_lt_of_le hdv (Nat.pow_le_pow_right (n := 10) (by omega) (show k ≤ 15 by omega))
      have hnn := fl_nan (t := dval s.data.toList) (by omega)
      have hlt2 := fl_lt (t := dval s.data.toList) (by omega)
      have hm := run_mul 4607182418800017408 (fl (dval s.data.toList)) (sgw false (fl (dval s.data.toList))) (sgw_mul hnn (by omega)).1
      have HCL : Hid (cl (sgw false (fl (dval s.data.toList))) = sgw false (fl (dval s.data.toList))) := sgw_nan false hnn
      clear hdv hd2 hlt2 hnn hlen hkn
      rw [HT.out]
      obtain ⟨x, hx⟩ : ∃ x, fl (dval s.data.toList) = x := ⟨_, rfl⟩
      rw [hx] at hm HCL ⊢
      have HX := Lib.hid hx
      clear hx
      go_wp2_with (go_at_call 28; refine (bits_any _ _).mono ?_; rw [HCL.out]; rintro e w'' ⟨rfl, rfl⟩)
      go_ret2
      exact ⟨by rw [HX.out]; rfl, HB.out⟩

set_option maxRecDepth 100000 in
set_option maxHeartbeats 1000000 in
theorem Of_neg (s : ByteArray) (w : World) (hs : s.size ≤ 9223372036854775807) (h0 : hp s ⟨#[48, 120]⟩ = false) (h1 : hp s ⟨#[45]⟩ = true) (b : ByteArray) (hbe : s.extract 1 s.size = b) (h3 : numB b = true) :
    Calls Tryd.prog 14 #[.string s] w fun e w' => e = .returned (.tuple #[.int .u64 (sgw true (fl (dval b.data.toList))), .bool true]) ∧ Below w.heap.size w w' := by
  have hsz : 1 ≤ s.size := hp_le h1
  have hbs : b.size ≤ 9223372036854775807 := by rw [← hbe, ByteArray.size_extract]; omega
  obtain ⟨n1, n15, hdg⟩ := numB_facts h3
  have i1 : (b.toList == [105, 110, 102]) = false := by
    rw [beq_eq_false_iff_ne]; intro e; rw [Lib.toList_data] at e; rw [e] at hdg; exact absurd (hdg 105 (by simp)) (by decide)
  have i2 : (b.toList == [110, 97, 110]) = false := by
    rw [beq_eq_false_iff_ne]; intro e; rw [Lib.toList_data] at e; rw [e] at hdg; exact absurd (hdg 110 (by simp)) (by decide)
  have H0 := Lib.hid h0
  have H1 := Lib.hid h1
  have H3 := Lib.hid h3
  have HDG := Lib.hid hdg
  clear h0 h1 h3 hdg
  have hb := run_bits
  go_enter Tryd.func14, Tryd.ntmps14
  go_wp2_with (first
    | (go_at_call 25; refine (CutPrefix_any s _ _).mono ?_; rw [H0.out]; rintro e w' ⟨rfl, rfl⟩)
    | (go_at_call 30; refine (Number_any b _ hbs).mono ?_; rw [H3.out]; rintro e w' ⟨rfl, rfl⟩)
    | (go_at_call 27; refine (HasPrefix_any s ⟨#[45]⟩ _).mono ?_; rw [H1.out]; rintro e w' ⟨rfl, rfl⟩))
  go_quiet (fail)
  have HBq := Lib.hid (below_drewN (Below.refl w'.heap.size w') nq)
  have hzq : (w'.drewN nq).heap.size = w'.heap.size := rfl
  generalize w'.drewN nq = wq at *
  have hconv := Lib.run_convert_string_bytes (P := Tryd.prog) wq 9 46 5 b Tryd.underlying9 Tryd.underlying46 Tryd.underlying5
  have HB := Lib.hid (HBq.out.trans ((bw_below wq 5 b).mono (Nat.le_of_eq hzq.symm)))
  have HC := Lib.hid (fun j hj => Lib.bytesWorld_cell wq 5 b j hj)
  generalize Lib.bytesWorld wq 5 b = W at *
  generalize grownCap wq b.size 0 5 = C at *
  clear hzq
  go_wp2_with (first
    | (go_at_call 30; refine (Number_any b _ hbs).mono ?_; rw [H3.out]; rintro e w' ⟨rfl, rfl⟩))

  go_loop [7, 48] (fun a i => ∃ k : Nat, k ≤ b.size ∧ i = .int .i64 k ∧ a = .float .f64 (fl (dval (b.data.toList.take k)))) (fun _ i => b.size - (intOf i).toNat)
  case atStart => exact ⟨0, by omega, rfl, by rw [List.take_zero]; simp [dval, fl_zero]⟩
  case round =>
    obtain ⟨k, hk, rfl, rfl⟩ := hrel
    have hlen : (b.data.toList.take k).length = k := by simp; omega
    have hdv := dval_lt (b.data.toList.take k) (fun c hc => HDG.out c (List.mem_of_mem_take hc))
    rw [hlen] at hdv
    by_cases hlt : k < b.size
    · have hp : 10 ^ k ≤ 10 ^ 14 := Nat.pow_le_pow_right (by omega) (by omega)
      have hltI : (k : Int) < (b.size : Int) := by omega
      have hc := HC.out k hlt
      have hdig := HDG.out (gb b k) (by
        unfold gb
        rw [List.getD_eq_getElem?_getD, List.getElem?_eq_getElem (by simpa using hlt)]
        exact List.getElem_mem _)
      have hsn : b.data.toList.take (k + 1) = b.data.toList.take k ++ [gb b k] := by
        unfold gb
        rw [List.take_succ_eq_append_getElem (by simpa using hlt), List.getD_eq_getElem?_getD, List.getElem?_eq_getElem (by simpa using hlt)]; rfl
      have HN : Hid (dval (b.data.toList.take (k + 1)) = dval (b.data.toList.take k) * 10 + ((gb b k).toNat - 48)) := by unfold Hid; rw [hsn, dval_snoc]
      change W.cell? _ = some (.int .u8 (gb b k).toNat) at hc
      unfold isDig at hdig
      simp only [decide_eq_true_eq] at hdig
      generalize gb b k = c at *
      generalize dval (b.data.toList.take k) = t at *
      have ht : t < 100000000000000 := Nat.lt_of_lt_of_le hdv hp
      have hm := run_mul (fl t) (fl 10) _ (mul_fl (by omega) (by omega) (by omega))
      have hd := run_add (fl (t * 10)) (fl (c.toNat - 48)) _ (add_fl (by omega) (by omega) (by omega))
      rw [fl_ten] at hm
      have hcv := floatOfInt_nat (c.toNat - 48)
      have hw : IntKind.u8.wrap ((c.toNat : Int) - 48) = ((c.toNat - 48 : Nat) : Int) := by unfold IntKind.wrap; simp [IntKind.bits, IntKind.signed]; omega
      clear hsn hdv hp hlen ht hdig
      generalize c.toNat - 48 = d at *
      go_wp2_with fail
      exact ⟨⟨k + 1, by omega, by go_num, by rw [HN.out]⟩, by simp [intOf]; omega⟩
    · have hge : ¬ ((k : Int) < (b.size : Int)) := by omega
      have hkn : k = b.size := by omega
      have HT : Hid (dval (b.data.toList.take k) = dval b.data.toList) := by unfold Hid; rw [List.take_of_length_le (by simp; omega)]
      rw [HT.out] at hdv
      have hd2 : dval b.data.toList < 1000000000000000 := Nat.lt_of_lt_of_le hdv (Nat.pow_le_pow_right (n := 10) (by omega) (show k ≤ 15 by omega))
      have hnn := fl_nan (t := dval b.data.toList) (by omega)
      have hlt2 := fl_lt (t := dval b.data.toList) (by omega)
      have hm := run_mul 13830554455654793216 (fl (dval b.data.toList)) (sgw true (fl (dval b.data.toList))) (sgw_mul hnn (by omega)).2
      have HCL : Hid (cl (sgw true (fl (dval b.data.toList))) = sgw true (fl (dval b.data.toList))) := sgw_nan true hnn
      clear hdv hd2 hlt2 hnn hlen hkn
      rw [HT.out]
      obtain ⟨x, hx⟩ : ∃ x, fl (dval b.data.toList) = x := ⟨_, rfl⟩
      rw [hx] at hm HCL ⊢
      have HX := Lib.hid hx
      clear hx
      go_wp2_with (go_at_call 28; refine (bits_any _ _).mono ?_; rw [HCL.out]; rintro e w'' ⟨rfl, rfl⟩)
      go_ret2
      exact ⟨by rw [HX.out]; rfl, HB.out⟩

set_option maxRecDepth 100000 in
set_option maxHeartbeats 1000000 in
theorem Of_pos (s : ByteArray) (w : World) (hs : s.size ≤ 9223372036854775807) (h0 : hp s ⟨#[48, 120]⟩ = false) (h1 : hp s ⟨#[45]⟩ = false) (h2 : hp s ⟨#[43]⟩ = true) (b : ByteArray) (hbe : s.extract 1 s.size = b) (h3 : numB b = true) :
    Calls Tryd.prog 14 #[.string s] w fun e w' => e = .returned (.tuple #[.int .u64 (sgw false (fl (dval b.data.toList))), .bool true]) ∧ Below w.heap.size w w' := by
  have hsz : 1 ≤ s.size := hp_le h2
  have hbs : b.size ≤ 9223372036854775807 := by rw [← hbe, ByteArray.size_extract]; omega
  obtain ⟨n1, n15, hdg⟩ := numB_facts h3
  have i1 : (b.toList == [105, 110, 102]) = false := by
    rw [beq_eq_false_iff_ne]; intro e; rw [Lib.toList_data] at e; rw [e] at hdg; exact absurd (hdg 105 (by simp)) (by decide)
  have i2 : (b.toList == [110, 97, 110]) = false := by
    rw [beq_eq_false_iff_ne]; intro e; rw [Lib.toList_data] at e; rw [e] at hdg; exact absurd (hdg 110 (by simp)) (by decide)
  have H0 := Lib.hid h0
  have H1 := Lib.hid h1
  have H2 := Lib.hid h2
  have H3 := Lib.hid h3
  have HDG := Lib.hid hdg
  have hconv := Lib.run_convert_string_bytes (P := Tryd.prog) w 9 46 5 b Tryd.underlying9 Tryd.underlying46 Tryd.underlying5
  have HB := Lib.hid (bw_below w 5 b)
  have HC := Lib.hid (fun j hj => Lib.bytesWorld_cell w 5 b j hj)
  generalize Lib.bytesWorld w 5 b = W at *
  generalize grownCap w b.size 0 5 = C at *
  clear h0 h1 h2 h3 hdg
  have hb := run_bits
  go_enter Tryd.func14, Tryd.ntmps14
  go_wp2_with (first
    | (go_at_call 25; refine (CutPrefix_any s _ _).mono ?_; rw [H0.out]; rintro e w' ⟨rfl, rfl⟩)
    | (go_at_call 30; refine (Number_any b _ hbs).mono ?_; rw [H3.out]; rintro e w' ⟨rfl, rfl⟩)
    | (go_at_call 27; (first | ((with_reducible refine (HasPrefix_any s ⟨#[45]⟩ _).mono ?_); rw [H1.out]) | ((with_reducible refine (HasPrefix_any s ⟨#[43]⟩ _).mono ?_); rw [H2.out])); rintro e w' ⟨rfl, rfl⟩))
  go_loop [7, 48] (fun a i => ∃ k : Nat, k ≤ b.size ∧ i = .int .i64 k ∧ a = .float .f64 (fl (dval (b.data.toList.take k)))) (fun _ i => b.size - (intOf i).toNat)
  case atStart => exact ⟨0, by omega, rfl, by rw [List.take_zero]; simp [dval, fl_zero]⟩
  case round =>
    obtain ⟨k, hk, rfl, rfl⟩ := hrel
    have hlen : (b.data.toList.take k).length = k := by simp; omega
    have hdv := dval_lt (b.data.toList.take k) (fun c hc => HDG.out c (List.mem_of_mem_take hc))
    rw [hlen] at hdv
    by_cases hlt : k < b.size
    · have hp : 10 ^ k ≤ 10 ^ 14 := Nat.pow_le_pow_right (by omega) (by omega)
      have hltI : (k : Int) < (b.size : Int) := by omega
      have hc := HC.out k hlt
      have hdig := HDG.out (gb b k) (by
        unfold gb
        rw [List.getD_eq_getElem?_getD, List.getElem?_eq_getElem (by simpa using hlt)]
        exact List.getElem_mem _)
      have hsn : b.data.toList.take (k + 1) = b.data.toList.take k ++ [gb b k] := by
        unfold gb
        rw [List.take_succ_eq_append_getElem (by simpa using hlt), List.getD_eq_getElem?_getD, List.getElem?_eq_getElem (by simpa using hlt)]; rfl
      have HN : Hid (dval (b.data.toList.take (k + 1)) = dval (b.data.toList.take k) * 10 + ((gb b k).toNat - 48)) := by unfold Hid; rw [hsn, dval_snoc]
      change W.cell? _ = some (.int .u8 (gb b k).toNat) at hc
      unfold isDig at hdig
      simp only [decide_eq_true_eq] at hdig
      generalize gb b k = c at *
      generalize dval (b.data.toList.take k) = t at *
      have ht : t < 100000000000000 := Nat.lt_of_lt_of_le hdv hp
      have hm := run_mul (fl t) (fl 10) _ (mul_fl (by omega) (by omega) (by omega))
      have hd := run_add (fl (t * 10)) (fl (c.toNat - 48)) _ (add_fl (by omega) (by omega) (by omega))
      rw [fl_ten] at hm
      have hcv := floatOfInt_nat (c.toNat - 48)
      have hw : IntKind.u8.wrap ((c.toNat : Int) - 48) = ((c.toNat - 48 : Nat) : Int) := by unfold IntKind.wrap; simp [IntKind.bits, IntKind.signed]; omega
      clear hsn hdv hp hlen ht hdig
      generalize c.toNat - 48 = d at *
      go_wp2_with fail
      exact ⟨⟨k + 1, by omega, by go_num, by rw [HN.out]⟩, by simp [intOf]; omega⟩
    · have hge : ¬ ((k : Int) < (b.size : Int)) := by omega
      have hkn : k = b.size := by omega
      have HT : Hid (dval (b.data.toList.take k) = dval b.data.toList) := by unfold Hid; rw [List.take_of_length_le (by simp; omega)]
      rw [HT.out] at hdv
      have hd2 : dval b.data.toList < 1000000000000000 := Nat.lt_of_lt_of_le hdv (Nat.pow_le_pow_right (n := 10) (by omega) (show k ≤ 15 by omega))
      have hnn := fl_nan (t := dval b.data.toList) (by omega)
      have hlt2 := fl_lt (t := dval b.data.toList) (by omega)
      have hm := run_mul 4607182418800017408 (fl (dval b.data.toList)) (sgw false (fl (dval b.data.toList))) (sgw_mul hnn (by omega)).1
      have HCL : Hid (cl (sgw false (fl (dval b.data.toList))) = sgw false (fl (dval b.data.toList))) := sgw_nan false hnn
      clear hdv hd2 hlt2 hnn hlen hkn
      rw [HT.out]
      obtain ⟨x, hx⟩ : ∃ x, fl (dval b.data.toList) = x := ⟨_, rfl⟩
      rw [hx] at hm HCL ⊢
      have HX := Lib.hid hx
      clear hx
      go_wp2_with (go_at_call 28; refine (bits_any _ _).mono ?_; rw [HCL.out]; rintro e w'' ⟨rfl, rfl⟩)
      go_ret2
      exact ⟨by rw [HX.out]; rfl, HB.out⟩

end Go.Proofs.YtplhgjngbnkhbaaDoor
