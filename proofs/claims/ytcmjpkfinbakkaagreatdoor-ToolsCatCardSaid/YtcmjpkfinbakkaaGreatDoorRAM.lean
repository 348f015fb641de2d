import Derived.Test.YtcmjpkfinbakkaaGreatDoorRAL
import Derived.Test.YtcmjpkfinbakkaaGreatDoorRAF
namespace Go.Proofs.YtcmjpkfinbakkaaGreatDoor.Fl
set_option maxRecDepth 100000
open Go.RowKit Ieee
set_option linter.unusedVariables false

theorem sgw_fl {n : Nat} (h : n < 1000000000000000) : sgw true (fl n) = 9223372036854775808 + fl n ∧ sgw false (fl n) = fl n ∧ fl n < 9223372036854775808 := by
  have hf := (fl_word (t := n) true).2
  refine ⟨?_, by unfold sgw; exact if_neg Bool.false_ne_true, hf⟩
  unfold sgw opp
  rw [if_pos rfl, word_val]
  generalize fl n = f at *
  have h1 : sg f = false := by
    unfold sg
    rw [Nat.div_eq_of_lt hf]; rfl
  have h2 : rg f = f := by
    unfold rg
    rw [Nat.mod_eq_of_lt hf]
  rw [h1, h2, Bool.not_false, if_pos rfl]
/-- The head of Real: no eighteen bytes with 0x ahead. -/
def HeadNo (s : ByteArray) : Prop := ((s.size : Int) == 18) = false ∨ (((s.size : Int) == 18) = true ∧ (2 : Int) ≤ (s.size : Int) ∧ ((s.extract 0 2).toList == [48, 120]) = false)
theorem dig_step {n c : Nat} (h : n < 100000000000000) (h1 : 48 ≤ c) (h2 : c ≤ 57) : ∃ p q r : Nat, IntKind.i64.wrap ((n : Int) * 10) = (p : Int) ∧ IntKind.i64.wrap ((p : Int) + (c : Int)) = (q : Int) ∧ IntKind.i64.wrap ((q : Int) - 48) = (r : Int) ∧ r = n * 10 + (c - 48) := by
  refine ⟨n * 10, n * 10 + c, n * 10 + (c - 48), ?_, ?_, ?_, rfl⟩
  · rw [IntKind.wrap_i64]; omega
  · rw [IntKind.wrap_i64]; omega
  · rw [IntKind.wrap_i64]; omega
theorem inf_or : bits .or .u64 9218868437227405312 9223372036854775808 = 18442240474082181120 ∧ bits .or .u64 9218868437227405312 0 = 9218868437227405312 := by constructor <;> decide +kernel

set_option maxRecDepth 100000 in
set_option maxHeartbeats 4000000 in
theorem Real_num_inf (s : ByteArray) (w : World) (hs : s.size ≤ 1000000) (hh : HeadNo s) (h1 : hp s ⟨#[45]⟩ = false) (h2 : hp s ⟨#[43]⟩ = false) (h3 : s.data.toList = [105, 110, 102]) :
    Calls Tryz.prog 27 #[.string s] w fun e w' => e = .returned (.tuple #[.int .u64 9218868437227405312, .bool true]) ∧ Below w.heap.size w w' := by
  have hbs := hs
  have hl : s.data.toList.length = s.size := Array.length_toList
  have i1 : (s.toList == [105, 110, 102]) = true := by rw [beq_iff_eq, Lib.toList_data]; exact h3
  have hB1 : ∀ w, Calls Tryz.prog 72 #[.string s, .string ⟨#[45]⟩] w fun e w' => e = .returned (.bool false) ∧ w' = w := by intro w; rw [← h1]; exact Begins_one s 45 w
  have HB1 := Lib.hid hB1
  have hB2 : ∀ w, Calls Tryz.prog 72 #[.string s, .string ⟨#[43]⟩] w fun e w' => e = .returned (.bool false) ∧ w' = w := by intro w; rw [← h2]; exact Begins_one s 43 w
  have HB2 := Lib.hid hB2
  have hor := inf_or.2
  clear h1 hB1 h2 hB2 hl
  clear h3
  rcases hh with g1 | ⟨g1, g3, g2⟩
  all_goals
    go_enter Tryz.func27, Tryz.ntmps27
    go_wp2_with fail
    refine (HB1.out w).mono ?_
    rintro e w' ⟨rfl, h⟩
    obtain rfl := h.symm
    go_wp2_with fail
    refine (HB2.out w).mono ?_
    rintro e w' ⟨rfl, h⟩
    obtain rfl := h.symm
    go_wp2_with fail
    go_ret2
    exact ⟨rfl, Below.refl _ _⟩
set_option maxRecDepth 100000 in
set_option maxHeartbeats 4000000 in
theorem Real_num_nan (s : ByteArray) (w : World) (hs : s.size ≤ 1000000) (hh : HeadNo s) (h1 : hp s ⟨#[45]⟩ = false) (h2 : hp s ⟨#[43]⟩ = false) (h3 : s.data.toList = [110, 97, 110]) :
    Calls Tryz.prog 27 #[.string s] w fun e w' => e = .returned (.tuple #[.int .u64 9221120237041090560, .bool true]) ∧ Below w.heap.size w w' := by
  have hbs := hs
  have hl : s.data.toList.length = s.size := Array.length_toList
  have i1 : (s.toList == [105, 110, 102]) = false := by
    rw [beq_eq_false_iff_ne, Lib.toList_data]; rw [h3]; decide
  have i2 : (s.toList == [110, 97, 110]) = true := by rw [beq_iff_eq, Lib.toList_data]; exact h3
  have hB1 : ∀ w, Calls Tryz.prog 72 #[.string s, .string ⟨#[45]⟩] w fun e w' => e = .returned (.bool false) ∧ w' = w := by intro w; rw [← h1]; exact Begins_one s 45 w
  have HB1 := Lib.hid hB1
  have hB2 : ∀ w, Calls Tryz.prog 72 #[.string s, .string ⟨#[43]⟩] w fun e w' => e = .returned (.bool false) ∧ w' = w := by intro w; rw [← h2]; exact Begins_one s 43 w
  have HB2 := Lib.hid hB2
  clear h1 hB1 h2 hB2 hl
  clear h3
  rcases hh with g1 | ⟨g1, g3, g2⟩
  all_goals
    go_enter Tryz.func27, Tryz.ntmps27
    go_wp2_with fail
    refine (HB1.out w).mono ?_
    rintro e w' ⟨rfl, h⟩
    obtain rfl := h.symm
    go_wp2_with fail
    refine (HB2.out w).mono ?_
    rintro e w' ⟨rfl, h⟩
    obtain rfl := h.symm
    go_wp2_with fail
    go_ret2
    exact ⟨rfl, Below.refl _ _⟩
set_option maxRecDepth 100000 in
set_option maxHeartbeats 4000000 in
theorem Real_num_long (s : ByteArray) (w : World) (hs : s.size ≤ 1000000) (hh : HeadNo s) (h1 : hp s ⟨#[45]⟩ = false) (h2 : hp s ⟨#[43]⟩ = false) (h4 : s.data.toList ≠ [105, 110, 102]) (h5 : s.data.toList ≠ [110, 97, 110]) (h3 : ¬ (1 ≤ s.size ∧ s.size ≤ 15)) :
    Calls Tryz.prog 27 #[.string s] w fun e w' => e = .returned (.tuple #[.int .u64 0, .bool false]) ∧ Below w.heap.size w w' := by
  have hbs := hs
  have hl : s.data.toList.length = s.size := Array.length_toList
  have i1 : (s.toList == [105, 110, 102]) = false := by
    rw [beq_eq_false_iff_ne, Lib.toList_data]; exact h4
  have i2 : (s.toList == [110, 97, 110]) = false := by rw [beq_eq_false_iff_ne, Lib.toList_data]; exact h5
  have hB1 : ∀ w, Calls Tryz.prog 72 #[.string s, .string ⟨#[45]⟩] w fun e w' => e = .returned (.bool false) ∧ w' = w := by intro w; rw [← h1]; exact Begins_one s 45 w
  have HB1 := Lib.hid hB1
  have hB2 : ∀ w, Calls Tryz.prog 72 #[.string s, .string ⟨#[43]⟩] w fun e w' => e = .returned (.bool false) ∧ w' = w := by intro w; rw [← h2]; exact Begins_one s 43 w
  have HB2 := Lib.hid hB2
  have hd : (s.size : Int) < 1 ∨ ((1 : Int) ≤ (s.size : Int) ∧ (15 : Int) < (s.size : Int)) := by omega
  clear h1 hB1 h2 hB2 h4 h5 hl
  clear h3
  rcases hh with g1 | ⟨g1, g3, g2⟩
  all_goals rcases hd with d1 | ⟨d1, d2⟩
  all_goals
    go_enter Tryz.func27, Tryz.ntmps27
    go_wp2_with fail
    refine (HB1.out w).mono ?_
    rintro e w' ⟨rfl, h⟩
    obtain rfl := h.symm
    go_wp2_with fail
    refine (HB2.out w).mono ?_
    rintro e w' ⟨rfl, h⟩
    obtain rfl := h.symm
    go_wp2_with fail
    go_ret2
    exact ⟨rfl, Below.refl _ _⟩
set_option maxRecDepth 100000 in
set_option maxHeartbeats 4000000 in
theorem Real_num_dig (s : ByteArray) (w : World) (hs : s.size ≤ 1000000) (hh : HeadNo s) (h1 : hp s ⟨#[45]⟩ = false) (h2 : hp s ⟨#[43]⟩ = false) (h4 : s.data.toList ≠ [105, 110, 102]) (h5 : s.data.toList ≠ [110, 97, 110]) (h3 : 1 ≤ s.size ∧ s.size ≤ 15) :
    Calls Tryz.prog 27 #[.string s] w fun e w' => e = .returned (.tuple #[.int .u64 (if s.data.toList.all isDig = true then sgw false (fl (dval s.data.toList)) else 0 : Nat), .bool (s.data.toList.all isDig)]) ∧ Below w.heap.size w w' := by
  have hbs := hs
  have hl : s.data.toList.length = s.size := Array.length_toList
  have i1 : (s.toList == [105, 110, 102]) = false := by
    rw [beq_eq_false_iff_ne, Lib.toList_data]; exact h4
  have i2 : (s.toList == [110, 97, 110]) = false := by rw [beq_eq_false_iff_ne, Lib.toList_data]; exact h5
  have hB1 : ∀ w, Calls Tryz.prog 72 #[.string s, .string ⟨#[45]⟩] w fun e w' => e = .returned (.bool false) ∧ w' = w := by intro w; rw [← h1]; exact Begins_one s 45 w
  have HB1 := Lib.hid hB1
  have hB2 : ∀ w, Calls Tryz.prog 72 #[.string s, .string ⟨#[43]⟩] w fun e w' => e = .returned (.bool false) ∧ w' = w := by intro w; rw [← h2]; exact Begins_one s 43 w
  have HB2 := Lib.hid hB2
  have HL := Lib.hid hl
  have n1 : (1 : Int) ≤ (s.size : Int) := by omega
  have n15 : (s.size : Int) ≤ 15 := by omega
  have n15' : s.size ≤ 15 := by omega
  obtain ⟨L, hL⟩ : ∃ L, s.data.toList = L := ⟨_, rfl⟩
  rw [hL] at HL ⊢
  have HGB : Hid (∀ k, k < s.size → L[k]? = some (gb s k)) := by
    intro k hk
    rw [← hL]
    unfold gb
    rw [List.getD_eq_getElem?_getD, List.getElem?_eq_getElem (by rw [hl]; exact hk)]; rfl
  obtain ⟨R, hR⟩ : ∃ R : Nat × Bool, (if L.all isDig = true then sgw false (fl (dval L)) else 0, L.all isDig) = R := ⟨_, rfl⟩
  have hR1 := congrArg Prod.fst hR
  have hR2 := congrArg Prod.snd hR
  simp only at hR1 hR2
  rw [hR1, hR2]
  have HR1 := Lib.hid hR1
  have HR2 := Lib.hid hR2
  have hbits := run_bits
  clear hR hR1 hR2 hL
  clear h1 hB1 h2 hB2 h4 h5 hl
  clear h3
  rcases hh with g1 | ⟨g1, g3, g2⟩
  all_goals
    go_enter Tryz.func27, Tryz.ntmps27
    go_wp2_with fail
    refine (HB1.out w).mono ?_
    rintro e w' ⟨rfl, h⟩
    obtain rfl := h.symm
    go_wp2_with fail
    refine (HB2.out w).mono ?_
    rintro e w' ⟨rfl, h⟩
    obtain rfl := h.symm
    go_wp2_with fail
    go_loop [9, 10] (fun n i => ∃ k : Nat, k ≤ s.size ∧ i = .int .i64 k ∧ n = .int .i64 (dval (L.take k) : Nat) ∧ ∀ c ∈ L.take k, isDig c = true) (fun _ i => s.size - (intOf i).toNat)
    case atStart => exact ⟨0, by omega, rfl, rfl, by intro c hc; simp at hc⟩
    case round =>
      obtain ⟨k, hk, rfl, rfl, hall⟩ := hrel
      have HALL := Lib.hid hall
      clear hall
      by_cases hlt : k < s.size
      · have hltI : (k : Int) < (s.size : Int) := by omega
        have hgb := gb_eq s k hlt
        have hbd := dval_lt _ HALL.out
        have hlen : (L.take k).length ≤ 14 := by rw [List.length_take]; omega
        have hbd2 : dval (L.take k) < 100000000000000 := Nat.lt_of_lt_of_le hbd (Nat.pow_le_pow_right (n := 10) (by omega) hlen)
        have hsn : L.take (k + 1) = L.take k ++ [gb s k] := by rw [List.take_add_one, HGB.out k hlt]; rfl
        have HN : Hid (dval (L.take (k + 1)) = dval (L.take k) * 10 + ((gb s k).toNat - 48)) := by unfold Hid; rw [hsn, dval_snoc]
        have HSN := Lib.hid hsn
        clear hbd hlen hsn
        obtain ⟨n, hn⟩ : ∃ n, dval (L.take k) = n := ⟨_, rfl⟩
        rw [hn] at HN hbd2 ⊢
        obtain ⟨c, hc⟩ : ∃ c, gb s k = c := ⟨_, rfl⟩
        have HC := Lib.hid hc
        rw [hc] at hgb HN HSN
        clear hn hc
        by_cases hd : isDig c = true
        · have hd2 := hd
          unfold isDig at hd2
          simp only [decide_eq_true_eq] at hd2
          have y1 : (48 : Int) ≤ (c.toNat : Int) := by omega
          have y2 : (c.toNat : Int) ≤ 57 := by omega
          obtain ⟨p, q, r, p1, p2, p3, p4⟩ := dig_step hbd2 hd2.1 hd2.2
          rw [← p4] at HN
          have q1 : wrap64 (n : Int) = (n : Int) := by unfold wrap64; omega
          clear p4 q1 hbd2
          have HA : Hid (∀ x ∈ L.take (k + 1), isDig x = true) := by
            intro x hx
            rw [HSN.out] at hx
            rcases List.mem_append.1 hx with h | h
            · exact HALL.out x h
            · simp at h; rw [h]; exact hd
          clear hd hd2
          go_wp2_with fail
          exact ⟨⟨k + 1, by omega, by go_num, by rw [HN.out], HA.out⟩, by simp [intOf]; omega⟩
        · have hx : c.toNat < 48 ∨ (48 ≤ c.toNat ∧ 57 < c.toNat) := by unfold isDig at hd; simp at hd; omega
          have hb : L.all isDig = false := by
            rw [Bool.eq_false_iff]
            intro h
            apply hd
            refine List.all_eq_true.1 h c ?_
            have := HGB.out k hlt
            rw [HC.out] at this
            exact List.mem_of_getElem? this
          have r1 := HR1.out
          have r2 := HR2.out
          rw [hb] at r1 r2
          have HQ : Hid (R = (0, false)) := Prod.ext r1.symm r2.symm
          clear hb r1 r2 hd
          rcases hx with hx | ⟨hx1, hx2⟩
          · have y1 : (c.toNat : Int) < 48 := by omega
            clear hx
            go_wp2_with fail
            go_ret2
            exact ⟨by rw [HQ.out]; rfl, Below.refl _ _⟩
          · have y1 : (48 : Int) ≤ (c.toNat : Int) := by omega
            have y2 : (57 : Int) < (c.toNat : Int) := by omega
            clear hx1 hx2
            go_wp2_with fail
            go_ret2
            exact ⟨by rw [HQ.out]; rfl, Below.refl _ _⟩
      · have hge : ¬ ((k : Int) < (s.size : Int)) := by omega
        have ht : L.take k = L := List.take_of_length_le (by rw [HL.out]; omega)
        have hall := HALL.out
        rw [ht] at hall ⊢
        have hb : L.all isDig = true := List.all_eq_true.2 hall
        have hbd := dval_lt _ hall
        have hbd2 : dval L < 1000000000000000 := Nat.lt_of_lt_of_le hbd (Nat.pow_le_pow_right (n := 10) (by omega) (show L.length ≤ 15 by rw [HL.out]; omega))
        have hcv := floatOfInt_nat (dval L)
        obtain ⟨f1, f2, f3⟩ := sgw_fl hbd2
        have ho := or_none f3
        have r1 := HR1.out
        have r2 := HR2.out
        rw [hb, if_pos rfl, f2] at r1
        rw [hb] at r2
        have HQ : Hid (R = (fl (dval L), true)) := Prod.ext r1.symm r2.symm
        clear ht hall hb hbd hbd2 r1 r2 f1 f2 f3
        generalize dval L = m at *
        go_wp2_with fail
        go_ret2
        exact ⟨by rw [HQ.out]; rfl, Below.refl _ _⟩
set_option maxRecDepth 100000 in
set_option maxHeartbeats 4000000 in
theorem Real_neg_inf (s : ByteArray) (w : World) (hs : s.size ≤ 1000000) (hh : HeadNo s) (h1 : hp s ⟨#[45]⟩ = true) (b : ByteArray) (hbe : s.extract 1 s.size = b) (h3 : b.data.toList = [105, 110, 102]) :
    Calls Tryz.prog 27 #[.string s] w fun e w' => e = .returned (.tuple #[.int .u64 18442240474082181120, .bool true]) ∧ Below w.heap.size w w' := by
  have hsz : 1 ≤ s.size := hp_le h1
  have hszI : (1 : Int) ≤ (s.size : Int) := by omega
  have hbs : b.size ≤ 1000000 := by rw [← hbe, ByteArray.size_extract]; omega
  have hl : b.data.toList.length = b.size := Array.length_toList
  have i1 : (b.toList == [105, 110, 102]) = true := by rw [beq_iff_eq, Lib.toList_data]; exact h3
  have hB1 : ∀ w, Calls Tryz.prog 72 #[.string s, .string ⟨#[45]⟩] w fun e w' => e = .returned (.bool true) ∧ w' = w := by intro w; rw [← h1]; exact Begins_one s 45 w
  have HB1 := Lib.hid hB1
  have hor := inf_or.1
  clear h1 hB1 hl
  clear h3
  rcases hh with g1 | ⟨g1, g3, g2⟩
  all_goals
    go_enter Tryz.func27, Tryz.ntmps27
    go_wp2_with fail
    refine (HB1.out w).mono ?_
    rintro e w' ⟨rfl, h⟩
    obtain rfl := h.symm
    go_wp2_with fail
    go_ret2
    exact ⟨rfl, Below.refl _ _⟩
set_option maxRecDepth 100000 in
set_option maxHeartbeats 4000000 in
theorem Real_neg_nan (s : ByteArray) (w : World) (hs : s.size ≤ 1000000) (hh : HeadNo s) (h1 : hp s ⟨#[45]⟩ = true) (b : ByteArray) (hbe : s.extract 1 s.size = b) (h3 : b.data.toList = [110, 97, 110]) :
    Calls Tryz.prog 27 #[.string s] w fun e w' => e = .returned (.tuple #[.int .u64 9221120237041090560, .bool true]) ∧ Below w.heap.size w w' := by
  have hsz : 1 ≤ s.size := hp_le h1
  have hszI : (1 : Int) ≤ (s.size : Int) := by omega
  have hbs : b.size ≤ 1000000 := by rw [← hbe, ByteArray.size_extract]; omega
  have hl : b.data.toList.length = b.size := Array.length_toList
  have i1 : (b.toList == [105, 110, 102]) = false := by
    rw [beq_eq_false_iff_ne, Lib.toList_data]; rw [h3]; decide
  have i2 : (b.toList == [110, 97, 110]) = true := by rw [beq_iff_eq, Lib.toList_data]; exact h3
  have hB1 : ∀ w, Calls Tryz.prog 72 #[.string s, .string ⟨#[45]⟩] w fun e w' => e = .returned (.bool true) ∧ w' = w := by intro w; rw [← h1]; exact Begins_one s 45 w
  have HB1 := Lib.hid hB1
  clear h1 hB1 hl
  clear h3
  rcases hh with g1 | ⟨g1, g3, g2⟩
  all_goals
    go_enter Tryz.func27, Tryz.ntmps27
    go_wp2_with fail
    refine (HB1.out w).mono ?_
    rintro e w' ⟨rfl, h⟩
    obtain rfl := h.symm
    go_wp2_with fail
    go_ret2
    exact ⟨rfl, Below.refl _ _⟩
set_option maxRecDepth 100000 in
set_option maxHeartbeats 4000000 in
theorem Real_neg_long (s : ByteArray) (w : World) (hs : s.size ≤ 1000000) (hh : HeadNo s) (h1 : hp s ⟨#[45]⟩ = true) (b : ByteArray) (hbe : s.extract 1 s.size = b) (h4 : b.data.toList ≠ [105, 110, 102]) (h5 : b.data.toList ≠ [110, 97, 110]) (h3 : ¬ (1 ≤ b.size ∧ b.size ≤ 15)) :
    Calls Tryz.prog 27 #[.string s] w fun e w' => e = .returned (.tuple #[.int .u64 0, .bool false]) ∧ Below w.heap.size w w' := by
  have hsz : 1 ≤ s.size := hp_le h1
  have hszI : (1 : Int) ≤ (s.size : Int) := by omega
  have hbs : b.size ≤ 1000000 := by rw [← hbe, ByteArray.size_extract]; omega
  have hl : b.data.toList.length = b.size := Array.length_toList
  have i1 : (b.toList == [105, 110, 102]) = false := by
    rw [beq_eq_false_iff_ne, Lib.toList_data]; exact h4
  have i2 : (b.toList == [110, 97, 110]) = false := by rw [beq_eq_false_iff_ne, Lib.toList_data]; exact h5
  have hB1 : ∀ w, Calls Tryz.prog 72 #[.string s, .string ⟨#[45]⟩] w fun e w' => e = .returned (.bool true) ∧ w' = w := by intro w; rw [← h1]; exact Begins_one s 45 w
  have HB1 := Lib.hid hB1
  have hd : (b.size : Int) < 1 ∨ ((1 : Int) ≤ (b.size : Int) ∧ (15 : Int) < (b.size : Int)) := by omega
  clear h1 hB1 h4 h5 hl
  clear h3
  rcases hh with g1 | ⟨g1, g3, g2⟩
  all_goals rcases hd with d1 | ⟨d1, d2⟩
  all_goals
    go_enter Tryz.func27, Tryz.ntmps27
    go_wp2_with fail
    refine (HB1.out w).mono ?_
    rintro e w' ⟨rfl, h⟩
    obtain rfl := h.symm
    go_wp2_with fail
    go_ret2
    exact ⟨rfl, Below.refl _ _⟩
set_option maxRecDepth 100000 in
set_option maxHeartbeats 4000000 in
theorem Real_neg_dig (s : ByteArray) (w : World) (hs : s.size ≤ 1000000) (hh : HeadNo s) (h1 : hp s ⟨#[45]⟩ = true) (b : ByteArray) (hbe : s.extract 1 s.size = b) (h4 : b.data.toList ≠ [105, 110, 102]) (h5 : b.data.toList ≠ [110, 97, 110]) (h3 : 1 ≤ b.size ∧ b.size ≤ 15) :
    Calls Tryz.prog 27 #[.string s] w fun e w' => e = .returned (.tuple #[.int .u64 (if b.data.toList.all isDig = true then sgw true (fl (dval b.data.toList)) else 0 : Nat), .bool (b.data.toList.all isDig)]) ∧ Below w.heap.size w w' := by
  have hsz : 1 ≤ s.size := hp_le h1
  have hszI : (1 : Int) ≤ (s.size : Int) := by omega
  have hbs : b.size ≤ 1000000 := by rw [← hbe, ByteArray.size_extract]; omega
  have hl : b.data.toList.length = b.size := Array.length_toList
  have i1 : (b.toList == [105, 110, 102]) = false := by
    rw [beq_eq_false_iff_ne, Lib.toList_data]; exact h4
  have i2 : (b.toList == [110, 97, 110]) = false := by rw [beq_eq_false_iff_ne, Lib.toList_data]; exact h5
  have hB1 : ∀ w, Calls Tryz.prog 72 #[.string s, .string ⟨#[45]⟩] w fun e w' => e = .returned (.bool true) ∧ w' = w := by intro w; rw [← h1]; exact Begins_one s 45 w
  have HB1 := Lib.hid hB1
  have HL := Lib.hid hl
  have n1 : (1 : Int) ≤ (b.size : Int) := by omega
  have n15 : (b.size : Int) ≤ 15 := by omega
  have n15' : b.size ≤ 15 := by omega
  obtain ⟨L, hL⟩ : ∃ L, b.data.toList = L := ⟨_, rfl⟩
  rw [hL] at HL ⊢
  have HGB : Hid (∀ k, k < b.size → L[k]? = some (gb b k)) := by
    intro k hk
    rw [← hL]
    unfold gb
    rw [List.getD_eq_getElem?_getD, List.getElem?_eq_getElem (by rw [hl]; exact hk)]; rfl
  obtain ⟨R, hR⟩ : ∃ R : Nat × Bool, (if L.all isDig = true then sgw true (fl (dval L)) else 0, L.all isDig) = R := ⟨_, rfl⟩
  have hR1 := congrArg Prod.fst hR
  have hR2 := congrArg Prod.snd hR
  simp only at hR1 hR2
  rw [hR1, hR2]
  have HR1 := Lib.hid hR1
  have HR2 := Lib.hid hR2
  have hbits := run_bits
  clear hR hR1 hR2 hL
  clear h1 hB1 h4 h5 hl
  clear h3
  rcases hh with g1 | ⟨g1, g3, g2⟩
  all_goals
    go_enter Tryz.func27, Tryz.ntmps27
    go_wp2_with fail
    refine (HB1.out w).mono ?_
    rintro e w' ⟨rfl, h⟩
    obtain rfl := h.symm
    go_wp2_with fail
    go_loop [9, 10] (fun n i => ∃ k : Nat, k ≤ b.size ∧ i = .int .i64 k ∧ n = .int .i64 (dval (L.take k) : Nat) ∧ ∀ c ∈ L.take k, isDig c = true) (fun _ i => b.size - (intOf i).toNat)
    case atStart => exact ⟨0, by omega, rfl, rfl, by intro c hc; simp at hc⟩
    case round =>
      obtain ⟨k, hk, rfl, rfl, hall⟩ := hrel
      have HALL := Lib.hid hall
      clear hall
      by_cases hlt : k < b.size
      · have hltI : (k : Int) < (b.size : Int) := by omega
        have hgb := gb_eq b k hlt
        have hbd := dval_lt _ HALL.out
        have hlen : (L.take k).length ≤ 14 := by rw [List.length_take]; omega
        have hbd2 : dval (L.take k) < 100000000000000 := Nat.lt_of_lt_of_le hbd (Nat.pow_le_pow_right (n := 10) (by omega) hlen)
        have hsn : L.take (k + 1) = L.take k ++ [gb b k] := by rw [List.take_add_one, HGB.out k hlt]; rfl
        have HN : Hid (dval (L.take (k + 1)) = dval (L.take k) * 10 + ((gb b k).toNat - 48)) := by unfold Hid; rw [hsn, dval_snoc]
        have HSN := Lib.hid hsn
        clear hbd hlen hsn
        obtain ⟨n, hn⟩ : ∃ n, dval (L.take k) = n := ⟨_, rfl⟩
        rw [hn] at HN hbd2 ⊢
        obtain ⟨c, hc⟩ : ∃ c, gb b k = c := ⟨_, rfl⟩
        have HC := Lib.hid hc
        rw [hc] at hgb HN HSN
        clear hn hc
        by_cases hd : isDig c = true
        · have hd2 := hd
          unfold isDig at hd2
          simp only [decide_eq_true_eq] at hd2
          have y1 : (48 : Int) ≤ (c.toNat : Int) := by omega
          have y2 : (c.toNat : Int) ≤ 57 := by omega
          obtain ⟨p, q, r, p1, p2, p3, p4⟩ := dig_step hbd2 hd2.1 hd2.2
          rw [← p4] at HN
          have q1 : wrap64 (n : Int) = (n : Int) := by unfold wrap64; omega
          clear p4 q1 hbd2
          have HA : Hid (∀ x ∈ L.take (k + 1), isDig x = true) := by
            intro x hx
            rw [HSN.out] at hx
            rcases List.mem_append.1 hx with h | h
            · exact HALL.out x h
            · simp at h; rw [h]; exact hd
          clear hd hd2
          go_wp2_with fail
          exact ⟨⟨k + 1, by omega, by go_num, by rw [HN.out], HA.out⟩, by simp [intOf]; omega⟩
        · have hx : c.toNat < 48 ∨ (48 ≤ c.toNat ∧ 57 < c.toNat) := by unfold isDig at hd; simp at hd; omega
          have hb : L.all isDig = false := by
            rw [Bool.eq_false_iff]
            intro h
            apply hd
            refine List.all_eq_true.1 h c ?_
            have := HGB.out k hlt
            rw [HC.out] at this
            exact List.mem_of_getElem? this
          have r1 := HR1.out
          have r2 := HR2.out
          rw [hb] at r1 r2
          have HQ : Hid (R = (0, false)) := Prod.ext r1.symm r2.symm
          clear hb r1 r2 hd
          rcases hx with hx | ⟨hx1, hx2⟩
          · have y1 : (c.toNat : Int) < 48 := by omega
            clear hx
            go_wp2_with fail
            go_ret2
            exact ⟨by rw [HQ.out]; rfl, Below.refl _ _⟩
          · have y1 : (48 : Int) ≤ (c.toNat : Int) := by omega
            have y2 : (57 : Int) < (c.toNat : Int) := by omega
            clear hx1 hx2
            go_wp2_with fail
            go_ret2
            exact ⟨by rw [HQ.out]; rfl, Below.refl _ _⟩
      · have hge : ¬ ((k : Int) < (b.size : Int)) := by omega
        have ht : L.take k = L := List.take_of_length_le (by rw [HL.out]; omega)
        have hall := HALL.out
        rw [ht] at hall ⊢
        have hb : L.all isDig = true := List.all_eq_true.2 hall
        have hbd := dval_lt _ hall
        have hbd2 : dval L < 1000000000000000 := Nat.lt_of_lt_of_le hbd (Nat.pow_le_pow_right (n := 10) (by omega) (show L.length ≤ 15 by rw [HL.out]; omega))
        have hcv := floatOfInt_nat (dval L)
        obtain ⟨f1, f2, f3⟩ := sgw_fl hbd2
        have ho := or_sign f3
        have r1 := HR1.out
        have r2 := HR2.out
        rw [hb, if_pos rfl, f1] at r1
        rw [hb] at r2
        have HQ : Hid (R = (9223372036854775808 + fl (dval L), true)) := Prod.ext r1.symm r2.symm
        clear ht hall hb hbd hbd2 r1 r2 f1 f2 f3
        generalize dval L = m at *
        go_wp2_with fail
        go_ret2
        exact ⟨by rw [HQ.out]; rfl, Below.refl _ _⟩
set_option maxRecDepth 100000 in
set_option maxHeartbeats 4000000 in
theorem Real_pos_inf (s : ByteArray) (w : World) (hs : s.size ≤ 1000000) (hh : HeadNo s) (h1 : hp s ⟨#[45]⟩ = false) (h2 : hp s ⟨#[43]⟩ = true) (b : ByteArray) (hbe : s.extract 1 s.size = b) (h3 : b.data.toList = [105, 110, 102]) :
    Calls Tryz.prog 27 #[.string s] w fun e w' => e = .returned (.tuple #[.int .u64 9218868437227405312, .bool true]) ∧ Below w.heap.size w w' := by
  have hsz : 1 ≤ s.size := hp_le h2
  have hszI : (1 : Int) ≤ (s.size : Int) := by omega
  have hbs : b.size ≤ 1000000 := by rw [← hbe, ByteArray.size_extract]; omega
  have hl : b.data.toList.length = b.size := Array.length_toList
  have i1 : (b.toList == [105, 110, 102]) = true := by rw [beq_iff_eq, Lib.toList_data]; exact h3
  have hB1 : ∀ w, Calls Tryz.prog 72 #[.string s, .string ⟨#[45]⟩] w fun e w' => e = .returned (.bool false) ∧ w' = w := by intro w; rw [← h1]; exact Begins_one s 45 w
  have HB1 := Lib.hid hB1
  have hB2 : ∀ w, Calls Tryz.prog 72 #[.string s, .string ⟨#[43]⟩] w fun e w' => e = .returned (.bool true) ∧ w' = w := by intro w; rw [← h2]; exact Begins_one s 43 w
  have HB2 := Lib.hid hB2
  have hor := inf_or.2
  clear h1 hB1 h2 hB2 hl
  clear h3
  rcases hh with g1 | ⟨g1, g3, g2⟩
  all_goals
    go_enter Tryz.func27, Tryz.ntmps27
    go_wp2_with fail
    refine (HB1.out w).mono ?_
    rintro e w' ⟨rfl, h⟩
    obtain rfl := h.symm
    go_wp2_with fail
    refine (HB2.out w).mono ?_
    rintro e w' ⟨rfl, h⟩
    obtain rfl := h.symm
    go_wp2_with fail
    go_ret2
    exact ⟨rfl, Below.refl _ _⟩
set_option maxRecDepth 100000 in
set_option maxHeartbeats 4000000 in
theorem Real_pos_nan (s : ByteArray) (w : World) (hs : s.size ≤ 1000000) (hh : HeadNo s) (h1 : hp s ⟨#[45]⟩ = false) (h2 : hp s ⟨#[43]⟩ = true) (b : ByteArray) (hbe : s.extract 1 s.size = b) (h3 : b.data.toList = [110, 97, 110]) :
    Calls Tryz.prog 27 #[.string s] w fun e w' => e = .returned (.tuple #[.int .u64 9221120237041090560, .bool true]) ∧ Below w.heap.size w w' := by
  have hsz : 1 ≤ s.size := hp_le h2
  have hszI : (1 : Int) ≤ (s.size : Int) := by omega
  have hbs : b.size ≤ 1000000 := by rw [← hbe, ByteArray.size_extract]; omega
  have hl : b.data.toList.length = b.size := Array.length_toList
  have i1 : (b.toList == [105, 110, 102]) = false := by
    rw [beq_eq_false_iff_ne, Lib.toList_data]; rw [h3]; decide
  have i2 : (b.toList == [110, 97, 110]) = true := by rw [beq_iff_eq, Lib.toList_data]; exact h3
  have hB1 : ∀ w, Calls Tryz.prog 72 #[.string s, .string ⟨#[45]⟩] w fun e w' => e = .returned (.bool false) ∧ w' = w := by intro w; rw [← h1]; exact Begins_one s 45 w
  have HB1 := Lib.hid hB1
  have hB2 : ∀ w, Calls Tryz.prog 72 #[.string s, .string ⟨#[43]⟩] w fun e w' => e = .returned (.bool true) ∧ w' = w := by intro w; rw [← h2]; exact Begins_one s 43 w
  have HB2 := Lib.hid hB2
  clear h1 hB1 h2 hB2 hl
  clear h3
  rcases hh with g1 | ⟨g1, g3, g2⟩
  all_goals
    go_enter Tryz.func27, Tryz.ntmps27
    go_wp2_with fail
    refine (HB1.out w).mono ?_
    rintro e w' ⟨rfl, h⟩
    obtain rfl := h.symm
    go_wp2_with fail
    refine (HB2.out w).mono ?_
    rintro e w' ⟨rfl, h⟩
    obtain rfl := h.symm
    go_wp2_with fail
    go_ret2
    exact ⟨rfl, Below.refl _ _⟩
set_option maxRecDepth 100000 in
set_option maxHeartbeats 4000000 in
theorem Real_pos_long (s : ByteArray) (w : World) (hs : s.size ≤ 1000000) (hh : HeadNo s) (h1 : hp s ⟨#[45]⟩ = false) (h2 : hp s ⟨#[43]⟩ = true) (b : ByteArray) (hbe : s.extract 1 s.size = b) (h4 : b.data.toList ≠ [105, 110, 102]) (h5 : b.data.toList ≠ [110, 97, 110]) (h3 : ¬ (1 ≤ b.size ∧ b.size ≤ 15)) :
    Calls Tryz.prog 27 #[.string s] w fun e w' => e = .returned (.tuple #[.int .u64 0, .bool false]) ∧ Below w.heap.size w w' := by
  have hsz : 1 ≤ s.size := hp_le h2
  have hszI : (1 : Int) ≤ (s.size : Int) := by omega
  have hbs : b.size ≤ 1000000 := by rw [← hbe, ByteArray.size_extract]; omega
  have hl : b.data.toList.length = b.size := Array.length_toList
  have i1 : (b.toList == [105, 110, 102]) = false := by
    rw [beq_eq_false_iff_ne, Lib.toList_data]; exact h4
  have i2 : (b.toList == [110, 97, 110]) = false := by rw [beq_eq_false_iff_ne, Lib.toList_data]; exact h5
  have hB1 : ∀ w, Calls Tryz.prog 72 #[.string s, .string ⟨#[45]⟩] w fun e w' => e = .returned (.bool false) ∧ w' = w := by intro w; rw [← h1]; exact Begins_one s 45 w
  have HB1 := Lib.hid hB1
  have hB2 : ∀ w, Calls Tryz.prog 72 #[.string s, .string ⟨#[43]⟩] w fun e w' => e = .returned (.bool true) ∧ w' = w := by intro w; rw [← h2]; exact Begins_one s 43 w
  have HB2 := Lib.hid hB2
  have hd : (b.size : Int) < 1 ∨ ((1 : Int) ≤ (b.size : Int) ∧ (15 : Int) < (b.size : Int)) := by omega
  clear h1 hB1 h2 hB2 h4 h5 hl
  clear h3
  rcases hh with g1 | ⟨g1, g3, g2⟩
  all_goals rcases hd with d1 | ⟨d1, d2⟩
  all_goals
    go_enter Tryz.func27, Tryz.ntmps27
    go_wp2_with fail
    refine (HB1.out w).mono ?_
    rintro e w' ⟨rfl, h⟩
    obtain rfl := h.symm
    go_wp2_with fail
    refine (HB2.out w).mono ?_
    rintro e w' ⟨rfl, h⟩
    obtain rfl := h.symm
    go_wp2_with fail
    go_ret2
    exact ⟨rfl, Below.refl _ _⟩
set_option maxRecDepth 100000 in
set_option maxHeartbeats 4000000 in
theorem Real_pos_dig (s : ByteArray) (w : World) (hs : s.size ≤ 1000000) (hh : HeadNo s) (h1 : hp s ⟨#[45]⟩ = false) (h2 : hp s ⟨#[43]⟩ = true) (b : ByteArray) (hbe : s.extract 1 s.size = b) (h4 : b.data.toList ≠ [105, 110, 102]) (h5 : b.data.toList ≠ [110, 97, 110]) (h3 : 1 ≤ b.size ∧ b.size ≤ 15) :
    Calls Tryz.prog 27 #[.string s] w fun e w' => e = .returned (.tuple #[.int .u64 (if b.data.toList.all isDig = true then sgw false (fl (dval b.data.toList)) else 0 : Nat), .bool (b.data.toList.all isDig)]) ∧ Below w.heap.size w w' := by
  have hsz : 1 ≤ s.size := hp_le h2
  have hszI : (1 : Int) ≤ (s.size : Int) := by omega
  have hbs : b.size ≤ 1000000 := by rw [← hbe, ByteArray.size_extract]; omega
  have hl : b.data.toList.length = b.size := Array.length_toList
  have i1 : (b.toList == [105, 110, 102]) = false := by
    rw [beq_eq_false_iff_ne, Lib.toList_data]; exact h4
  have i2 : (b.toList == [110, 97, 110]) = false := by rw [beq_eq_false_iff_ne, Lib.toList_data]; exact h5
  have hB1 : ∀ w, Calls Tryz.prog 72 #[.string s, .string ⟨#[45]⟩] w fun e w' => e = .returned (.bool false) ∧ w' = w := by intro w; rw [← h1]; exact Begins_one s 45 w
  have HB1 := Lib.hid hB1
  have hB2 : ∀ w, Calls Tryz.prog 72 #[.string s, .string ⟨#[43]⟩] w fun e w' => e = .returned (.bool true) ∧ w' = w := by intro w; rw [← h2]; exact Begins_one s 43 w
  have HB2 := Lib.hid hB2
  have HL := Lib.hid hl
  have n1 : (1 : Int) ≤ (b.size : Int) := by omega
  have n15 : (b.size : Int) ≤ 15 := by omega
  have n15' : b.size ≤ 15 := by omega
  obtain ⟨L, hL⟩ : ∃ L, b.data.toList = L := ⟨_, rfl⟩
  rw [hL] at HL ⊢
  have HGB : Hid (∀ k, k < b.size → L[k]? = some (gb b k)) := by
    intro k hk
    rw [← hL]
    unfold gb
    rw [List.getD_eq_getElem?_getD, List.getElem?_eq_getElem (by rw [hl]; exact hk)]; rfl
  obtain ⟨R, hR⟩ : ∃ R : Nat × Bool, (if L.all isDig = true then sgw false (fl (dval L)) else 0, L.all isDig) = R := ⟨_, rfl⟩
  have hR1 := congrArg Prod.fst hR
  have hR2 := congrArg Prod.snd hR
  simp only at hR1 hR2
  rw [hR1, hR2]
  have HR1 := Lib.hid hR1
  have HR2 := Lib.hid hR2
  have hbits := run_bits
  clear hR hR1 hR2 hL
  clear h1 hB1 h2 hB2 h4 h5 hl
  clear h3
  rcases hh with g1 | ⟨g1, g3, g2⟩
  all_goals
    go_enter Tryz.func27, Tryz.ntmps27
    go_wp2_with fail
    refine (HB1.out w).mono ?_
    rintro e w' ⟨rfl, h⟩
    obtain rfl := h.symm
    go_wp2_with fail
    refine (HB2.out w).mono ?_
    rintro e w' ⟨rfl, h⟩
    obtain rfl := h.symm
    go_wp2_with fail
    go_loop [9, 10] (fun n i => ∃ k : Nat, k ≤ b.size ∧ i = .int .i64 k ∧ n = .int .i64 (dval (L.take k) : Nat) ∧ ∀ c ∈ L.take k, isDig c = true) (fun _ i => b.size - (intOf i).toNat)
    case atStart => exact ⟨0, by omega, rfl, rfl, by intro c hc; simp at hc⟩
    case round =>
      obtain ⟨k, hk, rfl, rfl, hall⟩ := hrel
      have HALL := Lib.hid hall
      clear hall
      by_cases hlt : k < b.size
      · have hltI : (k : Int) < (b.size : Int) := by omega
        have hgb := gb_eq b k hlt
        have hbd := dval_lt _ HALL.out
        have hlen : (L.take k).length ≤ 14 := by rw [List.length_take]; omega
        have hbd2 : dval (L.take k) < 100000000000000 := Nat.lt_of_lt_of_le hbd (Nat.pow_le_pow_right (n := 10) (by omega) hlen)
        have hsn : L.take (k + 1) = L.take k ++ [gb b k] := by rw [List.take_add_one, HGB.out k hlt]; rfl
        have HN : Hid (dval (L.take (k + 1)) = dval (L.take k) * 10 + ((gb b k).toNat - 48)) := by unfold Hid; rw [hsn, dval_snoc]
        have HSN := Lib.hid hsn
        clear hbd hlen hsn
        obtain ⟨n, hn⟩ : ∃ n, dval (L.take k) = n := ⟨_, rfl⟩
        rw [hn] at HN hbd2 ⊢
        obtain ⟨c, hc⟩ : ∃ c, gb b k = c := ⟨_, rfl⟩
        have HC := Lib.hid hc
        rw [hc] at hgb HN HSN
        clear hn hc
        by_cases hd : isDig c = true
        · have hd2 := hd
          unfold isDig at hd2
          simp only [decide_eq_true_eq] at hd2
          have y1 : (48 : Int) ≤ (c.toNat : Int) := by omega
          have y2 : (c.toNat : Int) ≤ 57 := by omega
          obtain ⟨p, q, r, p1, p2, p3, p4⟩ := dig_step hbd2 hd2.1 hd2.2
          rw [← p4] at HN
          have q1 : wrap64 (n : Int) = (n : Int) := by unfold wrap64; omega
          clear p4 q1 hbd2
          have HA : Hid (∀ x ∈ L.take (k + 1), isDig x = true) := by
            intro x hx
            rw [HSN.out] at hx
            rcases List.mem_append.1 hx with h | h
            · exact HALL.out x h
            · simp at h; rw [h]; exact hd
          clear hd hd2
          go_wp2_with fail
          exact ⟨⟨k + 1, by omega, by go_num, by rw [HN.out], HA.out⟩, by simp [intOf]; omega⟩
        · have hx : c.toNat < 48 ∨ (48 ≤ c.toNat ∧ 57 < c.toNat) := by unfold isDig at hd; simp at hd; omega
          have hb : L.all isDig = false := by
            rw [Bool.eq_false_iff]
            intro h
            apply hd
            refine List.all_eq_true.1 h c ?_
            have := HGB.out k hlt
            rw [HC.out] at this
            exact List.mem_of_getElem? this
          have r1 := HR1.out
          have r2 := HR2.out
          rw [hb] at r1 r2
          have HQ : Hid (R = (0, false)) := Prod.ext r1.symm r2.symm
          clear hb r1 r2 hd
          rcases hx with hx | ⟨hx1, hx2⟩
          · have y1 : (c.toNat : Int) < 48 := by omega
            clear hx
            go_wp2_with fail
            go_ret2
            exact ⟨by rw [HQ.out]; rfl, Below.refl _ _⟩
          · have y1 : (48 : Int) ≤ (c.toNat : Int) := by omega
            have y2 : (57 : Int) < (c.toNat : Int) := by omega
            clear hx1 hx2
            go_wp2_with fail
            go_ret2
            exact ⟨by rw [HQ.out]; rfl, Below.refl _ _⟩
      · have hge : ¬ ((k : Int) < (b.size : Int)) := by omega
        have ht : L.take k = L := List.take_of_length_le (by rw [HL.out]; omega)
        have hall := HALL.out
        rw [ht] at hall ⊢
        have hb : L.all isDig = true := List.all_eq_true.2 hall
        have hbd := dval_lt _ hall
        have hbd2 : dval L < 1000000000000000 := Nat.lt_of_lt_of_le hbd (Nat.pow_le_pow_right (n := 10) (by omega) (show L.length ≤ 15 by rw [HL.out]; omega))
        have hcv := floatOfInt_nat (dval L)
        obtain ⟨f1, f2, f3⟩ := sgw_fl hbd2
        have ho := or_none f3
        have r1 := HR1.out
        have r2 := HR2.out
        rw [hb, if_pos rfl, f2] at r1
        rw [hb] at r2
        have HQ : Hid (R = (fl (dval L), true)) := Prod.ext r1.symm r2.symm
        clear ht hall hb hbd hbd2 r1 r2 f1 f2 f3
        generalize dval L = m at *
        go_wp2_with fail
        go_ret2
        exact ⟨by rw [HQ.out]; rfl, Below.refl _ _⟩
end Go.Proofs.YtcmjpkfinbakkaaGreatDoor.Fl

namespace Go.Proofs.YtcmjpkfinbakkaaGreatDoor.Fl
set_option maxRecDepth 100000
open Go.RowKit Ieee
set_option linter.unusedVariables false

theorem u64_eq {a b : Nat} : ((a : Int) == (b : Int)) = decide (a = b) := by
  rw [Bool.eq_iff_iff, beq_iff_eq, decide_eq_true_iff]; omega
end Go.Proofs.YtcmjpkfinbakkaaGreatDoor.Fl

namespace Go.Proofs.YtcmjpkfinbakkaaGreatDoor.Fl
set_option maxRecDepth 100000
open Go.RowKit Ieee
set_option linter.unusedVariables false

theorem head_no {s : ByteArray} (h : ¬ (s.size = 18 ∧ s.data.toList.take 2 = [48, 120])) : HeadNo s := by
  unfold HeadNo
  by_cases h1 : s.size = 18
  · right
    refine ⟨by rw [beq_iff_eq]; omega, by omega, ?_⟩
    rw [beq_eq_false_iff_ne, Lib.extract_toList]
    exact fun e => h ⟨h1, e⟩
  · left
    rw [beq_eq_false_iff_ne]; omega
theorem ofB_dig {neg : Bool} {L : Bs} (h1 : 1 ≤ L.length ∧ L.length ≤ 15) (h4 : L ≠ [105, 110, 102]) (h5 : L ≠ [110, 97, 110]) :
    ofB neg L = (if L.all isDig = true then sgw neg (fl (dval L)) else 0, L.all isDig) := by
  unfold ofB
  rw [if_neg h4, if_neg h5]
  cases h : L.all isDig with
  | true => rw [if_pos ⟨h1.1, h1.2, rfl⟩]; rfl
  | false => rw [if_neg (fun e => Bool.false_ne_true e.2.2)]; rfl
theorem ofB_long {neg : Bool} {L : Bs} (h1 : ¬ (1 ≤ L.length ∧ L.length ≤ 15)) (h4 : L ≠ [105, 110, 102]) (h5 : L ≠ [110, 97, 110]) : ofB neg L = (0, false) := by
  unfold ofB
  rw [if_neg h4, if_neg h5, if_neg (fun e => h1 ⟨e.1, e.2.1⟩)]

theorem Real_num (s : ByteArray) (w : World) (hs : s.size ≤ 1000000) (hh : HeadNo s) (h1 : hp s ⟨#[45]⟩ = false) (h2 : hp s ⟨#[43]⟩ = false) :
    Calls Tryz.prog 27 #[.string s] w fun e w' => e = .returned (.tuple #[.int .u64 (ofB false s.data.toList).1, .bool (ofB false s.data.toList).2]) ∧ Below w.heap.size w w' := by
  have hl : s.data.toList.length = s.size := Array.length_toList
  by_cases c1 : s.data.toList = [105, 110, 102]
  · have e : ofB false s.data.toList = (9218868437227405312, true) := by unfold ofB; rw [if_pos c1, sgw_inf.2]
    rw [e]; exact Real_num_inf s w hs hh h1 h2 c1
  by_cases c2 : s.data.toList = [110, 97, 110]
  · have e : ofB false s.data.toList = (nanW, true) := by unfold ofB; rw [if_neg c1, if_pos c2]
    rw [e]; exact Real_num_nan s w hs hh h1 h2 c2
  by_cases c3 : 1 ≤ s.size ∧ s.size ≤ 15
  · rw [ofB_dig (by rw [hl]; exact c3) c1 c2]
    exact Real_num_dig s w hs hh h1 h2 c1 c2 c3
  · rw [ofB_long (by rw [hl]; exact c3) c1 c2]
    exact Real_num_long s w hs hh h1 h2 c1 c2 c3

theorem Real_neg (s : ByteArray) (w : World) (hs : s.size ≤ 1000000) (hh : HeadNo s) (h1 : hp s ⟨#[45]⟩ = true) (b : ByteArray) (hbe : s.extract 1 s.size = b) :
    Calls Tryz.prog 27 #[.string s] w fun e w' => e = .returned (.tuple #[.int .u64 (ofB true b.data.toList).1, .bool (ofB true b.data.toList).2]) ∧ Below w.heap.size w w' := by
  have hl : b.data.toList.length = b.size := Array.length_toList
  by_cases c1 : b.data.toList = [105, 110, 102]
  · have e : ofB true b.data.toList = (18442240474082181120, true) := by unfold ofB; rw [if_pos c1, sgw_inf.1]
    rw [e]; exact Real_neg_inf s w hs hh h1 b hbe c1
  by_cases c2 : b.data.toList = [110, 97, 110]
  · have e : ofB true b.data.toList = (nanW, true) := by unfold ofB; rw [if_neg c1, if_pos c2]
    rw [e]; exact Real_neg_nan s w hs hh h1 b hbe c2
  by_cases c3 : 1 ≤ b.size ∧ b.size ≤ 15
  · rw [ofB_dig (by rw [hl]; exact c3) c1 c2]
    exact Real_neg_dig s w hs hh h1 b hbe c1 c2 c3
  · rw [ofB_long (by rw [hl]; exact c3) c1 c2]
    exact Real_neg_long s w hs hh h1 b hbe c1 c2 c3

theorem Real_pos (s : ByteArray) (w : World) (hs : s.size ≤ 1000000) (hh : HeadNo s) (h1 : hp s ⟨#[45]⟩ = false) (h2 : hp s ⟨#[43]⟩ = true) (b : ByteArray) (hbe : s.extract 1 s.size = b) :
    Calls Tryz.prog 27 #[.string s] w fun e w' => e = .returned (.tuple #[.int .u64 (ofB false b.data.toList).1, .bool (ofB false b.data.toList).2]) ∧ Below w.heap.size w w' := by
  have hl : b.data.toList.length = b.size := Array.length_toList
  by_cases c1 : b.data.toList = [105, 110, 102]
  · have e : ofB false b.data.toList = (9218868437227405312, true) := by unfold ofB; rw [if_pos c1, sgw_inf.2]
    rw [e]; exact Real_pos_inf s w hs hh h1 h2 b hbe c1
  by_cases c2 : b.data.toList = [110, 97, 110]
  · have e : ofB false b.data.toList = (nanW, true) := by unfold ofB; rw [if_neg c1, if_pos c2]
    rw [e]; exact Real_pos_nan s w hs hh h1 h2 b hbe c2
  by_cases c3 : 1 ≤ b.size ∧ b.size ≤ 15
  · rw [ofB_dig (by rw [hl]; exact c3) c1 c2]
    exact Real_pos_dig s w hs hh h1 h2 b hbe c1 c2 c3
  · rw [ofB_long (by rw [hl]; exact c3) c1 c2]
    exact Real_pos_long s w hs hh h1 h2 b hbe c1 c2 c3

theorem Real_any (s : ByteArray) (w : World) (hs : s.size ≤ 1000000) :
    Calls Tryz.prog 27 #[.string s] w fun e w' => e = .returned (.tuple #[.int .u64 (ofL s.data.toList).1, .bool (ofL s.data.toList).2]) ∧ Below w.heap.size w w' := by
  have hl : s.data.toList.length = s.size := Array.length_toList
  have t1 := hp_take s ⟨#[45]⟩
  have t2 := hp_take s ⟨#[43]⟩
  rw [show (⟨#[45]⟩ : ByteArray).size = 1 from rfl, show (⟨#[45]⟩ : ByteArray).data.toList = [45] from rfl] at t1
  rw [show (⟨#[43]⟩ : ByteArray).size = 1 from rfl, show (⟨#[43]⟩ : ByteArray).data.toList = [43] from rfl] at t2
  by_cases h : s.size = 18 ∧ s.data.toList.take 2 = [48, 120]
  · have e : ofL s.data.toList = bitsL (s.data.toList.drop 2) := by unfold ofL; rw [if_pos h.2]
    rw [e]
    exact Real_bits s w h.1 h.2
  · have hh := head_no h
    by_cases h0 : s.data.toList.take 2 = [48, 120]
    · have e : ofL s.data.toList = (0, false) := by
        unfold ofL
        rw [if_pos h0, bitsL, if_neg]
        rintro ⟨q, _⟩
        rw [List.length_drop, hl] at q
        exact h ⟨by omega, h0⟩
      obtain ⟨t, ht⟩ : ∃ t, s.data.toList = 48 :: 120 :: t := ⟨s.data.toList.drop 2, by have q := List.take_append_drop 2 s.data.toList; rw [h0] at q; exact q.symm⟩
      have f1 : hp s ⟨#[45]⟩ = false := by rw [t1, ht]; rfl
      have f2 : hp s ⟨#[43]⟩ = false := by rw [t2, ht]; rfl
      have e2 : ofB false s.data.toList = (0, false) := by
        unfold ofB
        rw [ht, if_neg (by simp), if_neg (by simp), if_neg]
        rintro ⟨_, _, q⟩
        have := List.all_eq_true.1 q 120 (by simp)
        exact absurd this (by decide)
      have := Real_num s w hs hh f1 f2
      rw [e2] at this
      rw [e]
      exact this
    · unfold ofL
      rw [if_neg h0]
      by_cases h1 : s.data.toList.take 1 = [45]
      · rw [if_pos h1, ← drop_data]
        rw [decide_eq_true h1] at t1
        exact Real_neg s w hs hh t1 _ rfl
      · rw [if_neg h1]
        rw [decide_eq_false h1] at t1
        by_cases h2 : s.data.toList.take 1 = [43]
        · rw [if_pos h2, ← drop_data]
          rw [decide_eq_true h2] at t2
          exact Real_pos s w hs hh t1 t2 _ rfl
        · rw [if_neg h2]
          rw [decide_eq_false h2] at t2
          exact Real_num s w hs hh t1 t2
end Go.Proofs.YtcmjpkfinbakkaaGreatDoor.Fl
