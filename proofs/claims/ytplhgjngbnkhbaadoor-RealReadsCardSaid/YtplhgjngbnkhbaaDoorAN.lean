import Derived.Test.YtplhgjngbnkhbaaDoorAM
import Derived.Test.YtplhgjngbnkhbaaDoorAI
namespace Go.Proofs.YtplhgjngbnkhbaaDoor
open Go.RowKit Ieee
set_option linter.unusedVariables false

theorem head_no {s : ByteArray} (h : ¬ (s.size = 18 ∧ s.data.toList.take 2 = [48, 120])) : HeadNo s := by
  unfold HeadNo
  by_cases h1 : s.size = 18
  · right
    refine ⟨by rw [beq_iff_eq]; omega, by omega, ?_⟩
    rw [beq_eq_false_iff_ne, Lib.extract_toList]
    exact fun e => h ⟨h1, e⟩
  · left
    rw [beq_eq_false_iff_ne]; omega
theorem ofB_dig {neg : Bool} {L : Bs} (h1 : 1 ≤ L.length ∧ L.length ≤ 15) (h4 : L ≠ [105, 110, 102]) (h5 : L ≠ [110, 97, 110]) :
    ofB neg L = (if L.all isDig = true then sgw neg (fl (dval L)) else 0, L.all isDig) := by
  unfold ofB
  rw [if_neg h4, if_neg h5]
  cases h : L.all isDig with
  | true => rw [if_pos ⟨h1.1, h1.2, rfl⟩]; rfl
  | false => rw [if_neg (fun e => Bool.false_ne_true e.2.2)]; rfl
theorem ofB_long {neg : Bool} {L : Bs} (h1 : ¬ (1 ≤ L.length ∧ L.length ≤ 15)) (h4 : L ≠ [105, 110, 102]) (h5 : L ≠ [110, 97, 110]) : ofB neg L = (0, false) := by
  unfold ofB
  rw [if_neg h4, if_neg h5, if_neg (fun e => h1 ⟨e.1, e.2.1⟩)]

theorem Real_num (s : ByteArray) (w : World) (hs : s.size ≤ 1000000) (hh : HeadNo s) (h1 : hp s ⟨#[45]⟩ = false) (h2 : hp s ⟨#[43]⟩ = false) :
    Calls Tryd.prog 15 #[.string s] w fun e w' => e = .returned (.tuple #[.int .u64 (ofB false s.data.toList).1, .bool (ofB false s.data.toList).2]) ∧ Below w.heap.size w w' := by
  have hl : s.data.toList.length = s.size := Array.length_toList
  by_cases c1 : s.data.toList = [105, 110, 102]
  · have e : ofB false s.data.toList = (9218868437227405312, true) := by unfold ofB; rw [if_pos c1, sgw_inf.2]
    rw [e]; exact Real_num_inf s w hs hh h1 h2 c1
  by_cases c2 : s.data.toList = [110, 97, 110]
  · have e : ofB false s.data.toList = (nanW, true) := by unfold ofB; rw [if_neg c1, if_pos c2]
    rw [e]; exact Real_num_nan s w hs hh h1 h2 c2
  by_cases c3 : 1 ≤ s.size ∧ s.size ≤ 15
  · rw [ofB_dig (by rw [hl]; exact c3) c1 c2]
    exact Real_num_dig s w hs hh h1 h2 c1 c2 c3
  · rw [ofB_long (by rw [hl]; exact c3) c1 c2]
    exact Real_num_long s w hs hh h1 h2 c1 c2 c3

theorem Real_neg (s : ByteArray) (w : World) (hs : s.size ≤ 1000000) (hh : HeadNo s) (h1 : hp s ⟨#[45]⟩ = true) (b : ByteArray) (hbe : s.extract 1 s.size = b) :
    Calls Tryd.prog 15 #[.string s] w fun e w' => e = .returned (.tuple #[.int .u64 (ofB true b.data.toList).1, .bool (ofB true b.data.toList).2]) ∧ Below w.heap.size w w' := by
  have hl : b.data.toList.length = b.size := Array.length_toList
  by_cases c1 : b.data.toList = [105, 110, 102]
  · have e : ofB true b.data.toList = (18442240474082181120, true) := by unfold ofB; rw [if_pos c1, sgw_inf.1]
    rw [e]; exact Real_neg_inf s w hs hh h1 b hbe c1
  by_cases c2 : b.data.toList = [110, 97, 110]
  · have e : ofB true b.data.toList = (nanW, true) := by unfold ofB; rw [if_neg c1, if_pos c2]
    rw [e]; exact Real_neg_nan s w hs hh h1 b hbe c2
  by_cases c3 : 1 ≤ b.size ∧ b.size ≤ 15
  · rw [ofB_dig (by rw [hl]; exact c3) c1 c2]
    exact Real_neg_dig s w hs hh h1 b hbe c1 c2 c3
  · rw [ofB_long (by rw [hl]; exact c3) c1 c2]
    exact Real_neg_long s w hs hh h1 b hbe c1 c2 c3

theorem Real_pos (s : ByteArray) (w : World) (hs : s.size ≤ 1000000) (hh : HeadNo s) (h1 : hp s ⟨#[45]⟩ = false) (h2 : hp s ⟨#[43]⟩ = true) (b : ByteArray) (hbe : s.extract 1 s.size = b) :
    Calls Tryd.prog 15 #[.string s] w fun e w' => e = .returned (.tuple #[.int .u64 (ofB false b.data.toList).1, .bool (ofB false b.data.toList).2]) ∧ Below w.heap.size w w' := by
  have hl : b.data.toList.length = b.size := Array.length_toList
  by_cases c1 : b.data.toList = [105, 110, 102]
  · have e : ofB false b.data.toList = (9218868437227405312, true) := by unfold ofB; rw [if_pos c1, sgw_inf.2]
    rw [e]; exact Real_pos_inf s w hs hh h1 h2 b hbe c1
  by_cases c2 : b.data.toList = [110, 97, 110]
  · have e : ofB false b.data.toList = (nanW, true) := by unfold ofB; rw [if_neg c1, if_pos c2]
    rw [e]; exact Real_pos_nan s w hs hh h1 h2 b hbe c2
  by_cases c3 : 1 ≤ b.size ∧ b.size ≤ 15
  · rw [ofB_dig (by rw [hl]; exact c3) c1 c2]
    exact Real_pos_dig s w hs hh h1 h2 b hbe c1 c2 c3
  · rw [ofB_long (by rw [hl]; exact c3) c1 c2]
    exact Real_pos_long s w hs hh h1 h2 b hbe c1 c2 c3

theorem Real_any (s : ByteArray) (w : World) (hs : s.size ≤ 1000000) :
    Calls Tryd.prog 15 #[.string s] w fun e w' => e = .returned (.tuple #[.int .u64 (ofL s.data.toList).1, .bool (ofL s.data.toList).2]) ∧ Below w.heap.size w w' := by
  have hl : s.data.toList.length = s.size := Array.length_toList
  have t1 := hp_take s ⟨#[45]⟩
  have t2 := hp_take s ⟨#[43]⟩
  rw [show (⟨#[45]⟩ : ByteArray).size = 1 from rfl, show (⟨#[45]⟩ : ByteArray).data.toList = [45] from rfl] at t1
  rw [show (⟨#[43]⟩ : ByteArray).size = 1 from rfl, show (⟨#[43]⟩ : ByteArray).data.toList = [43] from rfl] at t2
  by_cases h : s.size = 18 ∧ s.data.toList.take 2 = [48, 120]
  · have e : ofL s.data.toList = bitsL (s.data.toList.drop 2) := by unfold ofL; rw [if_pos h.2]
    rw [e]
    exact Real_bits s w h.1 h.2
  · have hh := head_no h
    by_cases h0 : s.data.toList.take 2 = [48, 120]
    · have e : ofL s.data.toList = (0, false) := by
        unfold ofL
        rw [if_pos h0, bitsL, if_neg]
        rintro ⟨q, _⟩
        rw [List.length_drop, hl] at q
        exact h ⟨by omega, h0⟩
      obtain ⟨t, ht⟩ : ∃ t, s.data.toList = 48 :: 120 :: t := ⟨s.data.toList.drop 2, by have q := List.take_append_drop 2 s.data.toList; rw [h0] at q; exact q.symm⟩
      have f1 : hp s ⟨#[45]⟩ = false := by rw [t1, ht]; rfl
      have f2 : hp s ⟨#[43]⟩ = false := by rw [t2, ht]; rfl
      have e2 : ofB false s.data.toList = (0, false) := by
        unfold ofB
        rw [ht, if_neg (by simp), if_neg (by simp), if_neg]
        rintro ⟨_, _, q⟩
        have := List.all_eq_true.1 q 120 (by simp)
        exact absurd this (by decide)
      have := Real_num s w hs hh f1 f2
      rw [e2] at this
      rw [e]
      exact this
    · unfold ofL
      rw [if_neg h0]
      by_cases h1 : s.data.toList.take 1 = [45]
      · rw [if_pos h1, ← drop_data]
        rw [decide_eq_true h1] at t1
        exact Real_neg s w hs hh t1 _ rfl
      · rw [if_neg h1]
        rw [decide_eq_false h1] at t1
        by_cases h2 : s.data.toList.take 1 = [43]
        · rw [if_pos h2, ← drop_data]
          rw [decide_eq_true h2] at t2
          exact Real_pos s w hs hh t1 t2 _ rfl
        · rw [if_neg h2]
          rw [decide_eq_false h2] at t2
          exact Real_num s w hs hh t1 t2
set_option maxRecDepth 100000 in
set_option maxHeartbeats 1000000 in
theorem reads_walk (s : ByteArray) (hs : s.size ≤ maxLen) (w : World) :
    Calls Tryd.prog 3 #[.string s] w fun e w' => e = .returned (.bool true) ∧ Below w.heap.size w w' := by
  by_cases h : s.size ≤ 60
  · have h' : (s.size : Int) ≤ 60 := by omega
    have d1 : decide ((60 : Int) < (s.size : Int)) = false := by simp; omega
    have HO := Lib.hid (fun w => Of_any s w (by omega))
    have HR := Lib.hid (fun w => Real_any s w (by omega))
    obtain ⟨r, hr⟩ : ∃ r, ofL s.data.toList = r := ⟨_, rfl⟩
    rw [hr] at HO HR
    obtain ⟨n, ok⟩ := r
    have hb : (ok == ok) = true := by cases ok <;> rfl
    clear hr hs h
    go_enter Tryd.func3, Tryd.ntmps3
    go_wp2_with fail
    refine (alive_any w).mono ?_
    rintro e w1 ⟨rfl, hB⟩
    have HB1 := Lib.hid hB
    clear hB
    go_wp2_with fail
    refine (HO.out w1).mono ?_
    rintro e w2 ⟨rfl, hB⟩
    have HB2 := Lib.hid (below_trans HB1.out hB)
    clear hB
    go_wp2_with fail
    refine (HR.out w2).mono ?_
    rintro e w3 ⟨rfl, hB⟩
    have HB3 := Lib.hid (below_trans HB2.out hB)
    clear hB
    go_wp2_with fail
    go_ret
    exact ⟨rfl, HB3.out⟩
  · have h' : (60 : Int) < (s.size : Int) := by omega
    clear h
    go_enter Tryd.func3, Tryd.ntmps3
    go_wp2_with fail
    refine (alive_any w).mono ?_
    rintro e w1 ⟨rfl, hB⟩
    have HB1 := Lib.hid hB
    clear hB
    go_wp2_with fail
    go_ret
    exact ⟨rfl, HB1.out⟩
end Go.Proofs.YtplhgjngbnkhbaaDoor
