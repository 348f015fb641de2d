import Derived.Test.YthpmdgkhpigofaaH
namespace Go.Proofs.Ythpmdgkhpigofaa
open Go.RowKit

def mxB (s : ByteArray) : List It → Nat → Nat → Bool
  | [], o, e => o == e
  | it :: its, o, e => if it.1 = 3 then (List.range (e + 1 - o)).any fun d => mxB s its (o + d) e else decide (o < e) && it.2.2 (gb s o) && mxB s its (o + 1) e

theorem mxB_iff (s : ByteArray) : ∀ (its : List It) (o e : Nat), mxB s its o e = true ↔ Mx s its o e
  | [], o, e => by simp [mxB, Mx]
  | it :: its, o, e => by
    rw [mxB, Mx]
    split
    · simp only [List.any_eq_true, List.mem_range]
      constructor
      · rintro ⟨d, h1, h2⟩
        have h3 := (mxB_iff s its (o + d) e).1 h2
        exact ⟨o + d, by omega, h3.le, h3⟩
      · rintro ⟨k, h1, h2, h3⟩
        exact ⟨k - o, by omega, by rw [show o + (k - o) = k from by omega]; exact (mxB_iff s its k e).2 h3⟩
    · simp only [Bool.and_eq_true, decide_eq_true_eq]
      rw [mxB_iff s its (o + 1) e, and_assoc]

def matchB (p s : ByteArray) : Bool := mxB s (pcs p (p.size + 1) 0 true) 0 s.size
theorem matchB_iff (p s : ByteArray) : matchB p s = true ↔ Matches p s := mxB_iff _ _ _ _

theorem Match_b (p s : ByteArray) (w : World) (hp : p.size ≤ 100000) (hs : s.size ≤ 100000) :
    Calls Try.prog 11 #[.string p, .string s] w fun e w' => e = .returned (.bool (matchB p s)) ∧ Below w.heap.size w w' :=
  Match_any p s w hp hs _ (matchB_iff p s)

theorem ex1 : matchB ⟨#[91, 97, 45, 99, 93, 42]⟩ ⟨#[98, 120]⟩ = true := by decide +kernel
theorem ex2 : matchB ⟨#[91, 97, 45, 99, 93, 42]⟩ ⟨#[100, 120]⟩ = false := by decide +kernel

set_option maxHeartbeats 400000 in
theorem alive_any (w : World) : Calls Try.prog 10 #[] w fun e w' => e = .returned (.bool true) ∧ Below w.heap.size w w' := by
  go_enter Try.func10, Try.ntmps10
  go_wp2_with fail
  refine (Match_b _ _ _ (by decide) (by decide)).mono ?_
  rintro e w1 ⟨rfl, hB1⟩
  rw [ex1]
  go_wp2_with fail
  refine (Match_b _ _ _ (by decide) (by decide)).mono ?_
  rintro e w2 ⟨rfl, hB2⟩
  rw [ex2]
  have hB := Lib.hid (hB1.trans (hB2.mono hB1.size))
  clear hB1 hB2
  go_wp2_with fail
  go_ret
  exact ⟨rfl, hB.out⟩

/-- What a byte is that is neither a bracket nor a backslash. -/
def cls (c : UInt8) : It := if c = 42 then itStar else if c = 63 then itOne else itLit c

theorem pcs_plain (p : ByteArray) : ∀ (n i : Nat) (cl : Bool), p.size < n + i → (∀ j, i ≤ j → j < p.size → gb p j ≠ 91 ∧ gb p j ≠ 92) →
    pcs p n i cl = (p.data.toList.drop i).map cls := by
  intro n
  induction n with
  | zero =>
    intro i cl h _
    rw [pcs, List.drop_eq_nil_of_le (by simp; omega)]; rfl
  | succ n ih =>
    intro i cl h hno
    rw [pcs]
    by_cases hi : i < p.size
    · rw [if_pos hi]
      have hl : i < p.data.toList.length := by simpa using hi
      have hg : p.data.toList[i] = gb p i := by unfold gb; rw [List.getD_eq_getElem?_getD, List.getElem?_eq_getElem hl]; rfl
      rw [List.drop_eq_getElem_cons hl, List.map_cons, hg]
      have hn := hno i (Nat.le_refl _) hi
      have ih' := fun cl => ih (i + 1) cl (by omega) (fun j h1 h2 => hno j (by omega) h2)
      have hrb : rb p i = gb p i := by unfold rb; rw [if_neg (fun h => hn.2 h.1)]
      have hrn : rbn p i = i + 1 := by unfold rbn; rw [if_neg (fun h => hn.2 h.1)]
      unfold cls
      by_cases h1 : gb p i = 42
      · rw [if_pos h1, if_pos h1, ih' cl]; rfl
      · rw [if_neg h1, if_neg h1]
        by_cases h2 : gb p i = 63
        · rw [if_pos h2, if_pos h2, ih' cl]; rfl
        · rw [if_neg h2, if_neg h2, if_neg (fun h => hn.1 h.1), hrb, hrn, ih' cl]; rfl
    · rw [if_neg hi, List.drop_eq_nil_of_le (by simp; omega)]; rfl

theorem Mx_ones (s : ByteArray) : ∀ (k o e : Nat), Mx s (List.replicate k itOne) o e ↔ e = o + k
  | 0, o, e => by simp [Mx]; omega
  | k + 1, o, e => by
    rw [List.replicate_succ, Mx, if_neg (by decide), Mx_ones s k (o + 1) e]
    simp only [itOne, true_and]
    omega

theorem gb_mem {p : ByteArray} {j : Nat} (h : j < p.size) : gb p j ∈ p.data.toList := by
  have hl : j < p.data.toList.length := by simpa using h
  unfold gb; rw [List.getD_eq_getElem?_getD, List.getElem?_eq_getElem hl]; exact List.getElem_mem hl

theorem Matches_plain {p s : ByteArray} (h : ∀ c ∈ p.data.toList, c ≠ 91 ∧ c ≠ 92) : Matches p s ↔ Mx s (p.data.toList.map cls) 0 s.size := by
  unfold Matches
  rw [pcs_plain p (p.size + 1) 0 true (by omega) (fun j _ hj => h _ (gb_mem hj)), List.drop_zero]

theorem data_app (a b : ByteArray) : (a ++ b).data.toList = a.data.toList ++ b.data.toList := by simp

theorem map_ones (k : Nat) : (List.replicate k (63 : UInt8)).map cls = List.replicate k itOne := by simp [cls]

theorem ones_1 {p s : ByteArray} {k : Nat} (hp : p.data.toList = List.replicate k 63) : matchB p s = decide (s.size = k) := by
  rw [Bool.eq_iff_iff, matchB_iff, Matches_plain (by rw [hp]; intro c hc; rw [List.eq_of_mem_replicate hc]; decide), hp, map_ones, Mx_ones]
  simp

theorem ones_2 {p s : ByteArray} {k : Nat} (hp : p.data.toList = List.replicate k 63) : matchB (p ++ ⟨#[42]⟩) s = decide (k ≤ s.size) := by
  have hd : (p ++ ⟨#[42]⟩ : ByteArray).data.toList = List.replicate k 63 ++ [42] := by rw [data_app, hp]
  rw [Bool.eq_iff_iff, matchB_iff, Matches_plain (by rw [hd]; intro c hc; rcases List.mem_append.1 hc with h | h; rw [List.eq_of_mem_replicate h]; decide; rw [List.mem_singleton.1 h]; decide), hd, List.map_append, map_ones, Mx_append]
  simp only [Mx_ones, decide_eq_true_eq]
  constructor
  · rintro ⟨j, h1, h2⟩; have := h2.le; omega
  · intro h
    exact ⟨k, by omega, s.size, by omega, Nat.le_refl _, rfl⟩

theorem ones_3 {p s : ByteArray} {k : Nat} (hp : p.data.toList = List.replicate k 63) : matchB ((⟨#[42]⟩ : ByteArray) ++ p) s = decide (k ≤ s.size) := by
  have hd : ((⟨#[42]⟩ : ByteArray) ++ p).data.toList = 42 :: List.replicate k 63 := by rw [data_app, hp]; rfl
  rw [Bool.eq_iff_iff, matchB_iff, Matches_plain (by rw [hd]; intro c hc; rcases List.mem_cons.1 hc with h | h; rw [h]; decide; rw [List.eq_of_mem_replicate h]; decide), hd, List.map_cons, map_ones]
  simp only [decide_eq_true_eq]
  rw [show cls 42 = itStar from rfl, Mx, if_pos (by decide)]
  simp only [Mx_ones]
  constructor
  · rintro ⟨j, h1, h2, h3⟩; omega
  · intro h
    exact ⟨s.size - k, by omega, by omega, by omega⟩

set_option maxRecDepth 100000 in
set_option maxHeartbeats 2000000 in
theorem ones_in (m : Nat) (s : ByteArray) (h1 : (m : Int) ≤ 40) (h2 : s.size ≤ 40) (w : World) :
    Calls Try.prog 9 #[.int .i64 m, .string s] w fun e w' => e = .returned (.bool true) ∧ Below w.heap.size w w' := by
  have h0 : (0 : Int) ≤ (m : Int) := by omega
  go_enter Try.func9, Try.ntmps9
  go_wp2_with fail
  refine (alive_any _).mono ?_
  rintro e w1 ⟨rfl, hB1⟩
  go_wp2_with fail
  go_loop [6, 7] (fun q i => ∃ (k : Nat) (p : ByteArray), i = .int .i64 k ∧ q = .string p ∧ k ≤ m ∧ p.data.toList = List.replicate k 63) (fun _ i => m - (intOf i).toNat)
  case atStart => exact ⟨0, _, rfl, rfl, Nat.zero_le _, rfl⟩
  case round =>
    obtain ⟨k, p, rfl, rfl, hk, hp⟩ := hrel
    have HP := Lib.hid hp
    have hps : p.size = k := by
      have := congrArg List.length hp
      simpa using this
    clear hp
    have hps2 : p.size ≤ 40 := by omega
    clear hps
    by_cases hlt : k < m
    · go_wp2_with fail
      go_round
      case rel => exact ⟨k + 1, _, by go_num, rfl, hlt, by rw [data_app, HP.out, List.replicate_succ']⟩
      case measure => simp [intOf]; omega
    · have hkm : k = m := by omega
      rw [hkm] at HP
      clear hkm
      have hsz1 : (p ++ ⟨#[42]⟩ : ByteArray).size ≤ 100000 := by rw [ByteArray.size_append]; have : (⟨#[42]⟩ : ByteArray).size = 1 := rfl; omega
      have hsz2 : ((⟨#[42]⟩ : ByteArray) ++ p).size ≤ 100000 := by rw [ByteArray.size_append]; have : (⟨#[42]⟩ : ByteArray).size = 1 := rfl; omega
      have HZ1 := Lib.hid hsz1
      have HZ2 := Lib.hid hsz2
      clear hsz1 hsz2
      by_cases hlo : s.size < m
      · have e0 : ((s.size : Int) == (m : Int)) = false := by rw [beq_eq_false_iff_ne]; omega
        have m1 := Lib.hid (ones_1 (s := s) HP.out)
        have m2 := Lib.hid (ones_2 (s := s) HP.out)
        have m3 := Lib.hid (ones_3 (s := s) HP.out)
        have b1 : decide (s.size = m) = false := by simp; omega
        have b2 : decide (m ≤ s.size) = false := by simp; omega
        have b3 : decide ((m : Int) ≤ (s.size : Int)) = false := by simp; omega
        go_wp2_with fail
        refine (Match_b _ _ _ (by omega) (by omega)).mono ?_
        rintro e w2 ⟨rfl, hB2⟩
        rw [m1.out, b1]
        go_wp2_with fail
        refine (Match_b _ _ _ HZ1.out (by omega)).mono ?_
        rintro e w3 ⟨rfl, hB3⟩
        rw [m2.out, b2]
        go_wp2_with fail
        refine (Match_b _ _ _ HZ2.out (by omega)).mono ?_
        rintro e w4 ⟨rfl, hB4⟩
        rw [m3.out, b2]
        have hB := Lib.hid (((hB1.trans (hB2.mono hB1.size)).trans (hB3.mono (Nat.le_trans hB1.size hB2.size))).trans (hB4.mono (Nat.le_trans (Nat.le_trans hB1.size hB2.size) hB3.size)))
        clear hB1 hB2 hB3 hB4
        go_wp2_with fail
        go_ret
        exact ⟨rfl, hB.out⟩
      · by_cases heq : s.size = m
        · have e0 : ((s.size : Int) == (m : Int)) = true := by simp; omega
          have m1 := Lib.hid (ones_1 (s := s) HP.out)
          have m2 := Lib.hid (ones_2 (s := s) HP.out)
          have m3 := Lib.hid (ones_3 (s := s) HP.out)
          have b1 : decide (s.size = m) = true := by simp; omega
          have b2 : decide (m ≤ s.size) = true := by simp; omega
          have b3 : decide ((m : Int) ≤ (s.size : Int)) = true := by simp; omega
          go_wp2_with fail
          refine (Match_b _ _ _ (by omega) (by omega)).mono ?_
          rintro e w2 ⟨rfl, hB2⟩
          rw [m1.out, b1]
          go_wp2_with fail
          refine (Match_b _ _ _ HZ1.out (by omega)).mono ?_
          rintro e w3 ⟨rfl, hB3⟩
          rw [m2.out, b2]
          go_wp2_with fail
          refine (Match_b _ _ _ HZ2.out (by omega)).mono ?_
          rintro e w4 ⟨rfl, hB4⟩
          rw [m3.out, b2]
          have hB := Lib.hid (((hB1.trans (hB2.mono hB1.size)).trans (hB3.mono (Nat.le_trans hB1.size hB2.size))).trans (hB4.mono (Nat.le_trans (Nat.le_trans hB1.size hB2.size) hB3.size)))
          clear hB1 hB2 hB3 hB4
          go_wp2_with fail
          go_ret
          exact ⟨rfl, hB.out⟩
        · have e0 : ((s.size : Int) == (m : Int)) = false := by rw [beq_eq_false_iff_ne]; omega
          have m1 := Lib.hid (ones_1 (s := s) HP.out)
          have m2 := Lib.hid (ones_2 (s := s) HP.out)
          have m3 := Lib.hid (ones_3 (s := s) HP.out)
          have b1 : decide (s.size = m) = false := by simp; omega
          have b2 : decide (m ≤ s.size) = true := by simp; omega
          have b3 : decide ((m : Int) ≤ (s.size : Int)) = true := by simp; omega
          go_wp2_with fail
          refine (Match_b _ _ _ (by omega) (by omega)).mono ?_
          rintro e w2 ⟨rfl, hB2⟩
          rw [m1.out, b1]
          go_wp2_with fail
          refine (Match_b _ _ _ HZ1.out (by omega)).mono ?_
          rintro e w3 ⟨rfl, hB3⟩
          rw [m2.out, b2]
          go_wp2_with fail
          refine (Match_b _ _ _ HZ2.out (by omega)).mono ?_
          rintro e w4 ⟨rfl, hB4⟩
          rw [m3.out, b2]
          have hB := Lib.hid (((hB1.trans (hB2.mono hB1.size)).trans (hB3.mono (Nat.le_trans hB1.size hB2.size))).trans (hB4.mono (Nat.le_trans (Nat.le_trans hB1.size hB2.size) hB3.size)))
          clear hB1 hB2 hB3 hB4
          go_wp2_with fail
          go_ret
          exact ⟨rfl, hB.out⟩

set_option maxRecDepth 100000 in
set_option maxHeartbeats 1000000 in
theorem ones_walk (n : Int) (s : ByteArray) (_hw : (Lit.int .i64 n).wf = true) (_hs : s.size ≤ maxLen) (w : World) :
    Calls Try.prog 9 #[.int .i64 n, .string s] w fun e w' => e = .returned (.bool true) ∧ Below w.heap.size w w' := by
  by_cases h0 : n < 0
  · go_enter Try.func9, Try.ntmps9
    go_wp2_with (go_at_call 10; refine (alive_any _).mono ?_; rintro e w1 ⟨rfl, hB1⟩)
    go_ret
    exact ⟨rfl, hB1⟩
  · obtain ⟨m, rfl⟩ := Int.eq_ofNat_of_zero_le (by omega : 0 ≤ n)
    by_cases h1 : (m : Int) ≤ 40
    · by_cases h2 : s.size ≤ 40
      · exact ones_in m s h1 h2 w
      · have h2' : (40 : Int) < (s.size : Int) := by omega
        go_enter Try.func9, Try.ntmps9
        go_wp2_with (go_at_call 10; refine (alive_any _).mono ?_; rintro e w1 ⟨rfl, hB1⟩)
        go_ret
        exact ⟨rfl, hB1⟩
    · have h1' : (40 : Int) < (m : Int) := by omega
      go_enter Try.func9, Try.ntmps9
      go_wp2_with (go_at_call 10; refine (alive_any _).mono ?_; rintro e w1 ⟨rfl, hB1⟩)
      go_ret
      exact ⟨rfl, hB1⟩
end Go.Proofs.Ythpmdgkhpigofaa
