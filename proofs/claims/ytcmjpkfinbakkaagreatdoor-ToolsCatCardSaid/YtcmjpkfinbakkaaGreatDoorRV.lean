import Derived.Test.YtcmjpkfinbakkaaGreatDoorRT
import Derived.Laws.BitsAllLaws
import Derived.Test.YtcmjpkfinbakkaaGreatDoorRR
import Derived.Stop.LaidErr
import Derived.LaidMore
import Derived.Lib.LaidTab
import Derived.Shelf.Strings.Trim
import Derived.Shelf.Strings.SlTrimAscii
import Derived.Shelf.Small.Strs
import Derived.Test.YtcmjpkfinbakkaaGreatDoorRE
namespace Go.Proofs.YtcmjpkfinbakkaaGreatDoor.Fl
set_option maxRecDepth 100000
open Go.RowKit Ieee
set_option linter.unusedVariables false

theorem opp_word (s : Bool) {r : Nat} (h : r < 9223372036854775808) : opp (D.word s r) = D.word (!s) r := by
  unfold opp; rw [sg_word s h, rg_word s h]
theorem sub_turn {x y : Nat} (hx : nanB x = false) (hy : nanB y = false) :
    (D.sub x y = none ∧ D.sub y x = none) ∨ ∃ a b, D.sub x y = some a ∧ D.sub y x = some b ∧ rg b = rg a ∧ (b = opp a ∨ rg a = 0) := by
  unfold Format.sub
  rcases fin_or_inf hx with ⟨m, i, hm⟩ | hi
  · rcases fin_or_inf hy with ⟨n, j, hn⟩ | hj
    · right
      rw [hm.read, hn.read]
      simp only [Datum.opposite, Datum.sum, Option.map, Format.write]
      rw [Int.min_comm (-1074 + (j : Int))]
      obtain ⟨A, hA⟩ : ∃ A, signed (sg x) m ((-1074 + (i : Int) - min (-1074 + (i : Int)) (-1074 + (j : Int))).toNat) = A := ⟨_, rfl⟩
      obtain ⟨A', hA'⟩ : ∃ A', signed (!sg x) m ((-1074 + (i : Int) - min (-1074 + (i : Int)) (-1074 + (j : Int))).toNat) = A' := ⟨_, rfl⟩
      obtain ⟨B, hB⟩ : ∃ B, signed (sg y) n ((-1074 + (j : Int) - min (-1074 + (i : Int)) (-1074 + (j : Int))).toNat) = B := ⟨_, rfl⟩
      obtain ⟨B', hB'⟩ : ∃ B', signed (!sg y) n ((-1074 + (j : Int) - min (-1074 + (i : Int)) (-1074 + (j : Int))).toNat) = B' := ⟨_, rfl⟩
      have e1 : A' = -A := by rw [← hA, ← hA', signed_eq, signed_eq]; cases sg x <;> simp
      have e2 : B' = -B := by rw [← hB, ← hB', signed_eq, signed_eq]; cases sg y <;> simp
      rw [hA, hB', hB, hA', e1, e2]
      have e3 : (B + -A).natAbs = (A + -B).natAbs := by omega
      rw [e3]
      obtain ⟨P, hP⟩ : ∃ P, min (-1074 + (i : Int)) (-1074 + (j : Int)) = P := ⟨_, rfl⟩
      rw [hP]
      refine ⟨_, _, rfl, rfl, ?_⟩
      obtain ⟨r, hr, _, hw⟩ := nearest_word true (A + -B).natAbs P
      have hr2 : r < 9223372036854775808 := by omega
      rw [hw, hw, rg_word _ hr2, rg_word _ hr2, opp_word _ hr2]
      refine ⟨rfl, ?_⟩
      by_cases h0 : A + -B = 0
      · right
        have h1 : (A + -B).natAbs = 0 := by omega
        have h2 := hw false
        rw [h1, nearest_nought] at h2
        rw [word_val, word_val] at h2
        simpa using h2.symm
      · left
        rw [if_neg h0, if_neg (by omega : ¬ B + -A = 0)]
        congr 1
        rcases Int.lt_or_gt_of_ne h0 with h | h
        · rw [decide_eq_true h, decide_eq_false (by omega : ¬ B + -A < 0)]; rfl
        · rw [decide_eq_false (by omega : ¬ A + -B < 0), decide_eq_true (by omega : B + -A < 0)]; rfl
    · right
      rw [hm.read, read_inf hj]
      simp only [Datum.opposite, Datum.sum, Option.map, Format.write, D_inf]
      refine ⟨_, _, rfl, rfl, ?_, .inl ?_⟩
      · rw [rg_word _ (by omega), rg_word _ (by omega)]
      · rw [opp_word _ (by omega)]; simp
  · rcases fin_or_inf hy with ⟨n, j, hn⟩ | hj
    · right
      rw [hn.read, read_inf hi]
      simp only [Datum.opposite, Datum.sum, Option.map, Format.write, D_inf]
      refine ⟨_, _, rfl, rfl, ?_, .inl ?_⟩
      · rw [rg_word _ (by omega), rg_word _ (by omega)]
      · rw [opp_word _ (by omega)]
    · rw [read_inf hi, read_inf hj]
      simp only [Datum.opposite, Datum.sum]
      by_cases h : sg x = !sg y
      · right
        rw [if_pos h, if_pos (by rw [h]; simp)]
        simp only [Option.map, Format.write, D_inf]
        refine ⟨_, _, rfl, rfl, ?_, .inl ?_⟩
        · rw [rg_word _ (by omega), rg_word _ (by omega)]
        · rw [opp_word _ (by omega), h]; simp
      · left
        rw [if_neg h, if_neg (by intro e; apply h; rw [e]; simp)]
        exact ⟨rfl, rfl⟩

theorem opp_opp (x : Nat) (hx : x < 18446744073709551616) : opp (opp x) = x := by
  unfold opp
  rw [sg_word _ (rg_lt x), rg_word _ (rg_lt x), Bool.not_not]
  exact word_self hx
theorem opp_inf (x : Nat) : infB (opp x) = infB x := by unfold infB; rw [opp_rg]
theorem opp_tr (x : Nat) : tr (opp x) = tr x := by unfold tr; rw [opp_rg]
theorem opp_small (x : Nat) : small (opp x) = small x := by unfold small; rw [opp_rg]
theorem opp_whole (x : Nat) : whole (opp x) = whole x := by unfold whole; rw [opp_rg, opp_tr]
theorem dec_head (n : Nat) : ∃ c t, Lib.decDigits n = c :: t ∧ c ≠ 45 := by
  induction n using Nat.strongRecOn with
  | _ n ih =>
    by_cases h : n < 10
    · refine ⟨_, [], dec_small h, ?_⟩
      have : ∀ k : Fin 10, UInt8.ofNat (48 + k.val) ≠ 45 := by decide
      exact this ⟨n, h⟩
    · obtain ⟨c, t, e, hc⟩ := ih (n / 10) (by omega)
      exact ⟨c, t ++ [UInt8.ofNat (48 + n % 10)], by rw [dec_big h, e]; rfl, hc⟩
/-- A text and that of the opposite. -/
theorem text_turn {x : Nat} (hx : x < 18446744073709551616) (hn : nanB x = false) :
    (textL x).length = 18 ∨ (∃ d, textL x = 45 :: d ∧ textL (opp x) = d ∧ d.length < 17) ∨ (∃ c d, textL (opp x) = 45 :: c :: d ∧ textL x = c :: d ∧ c ≠ 45 ∧ (c :: d).length < 17) := by
  have hn2 : nanB (opp x) = false := by rw [opp_nan]; exact hn
  cases hi : infB x with
  | true =>
    cases hs : sg x with
    | true =>
      right; left
      refine ⟨[105, 110, 102], ?_, ?_, by decide⟩
      · rw [textL, hn, hi, hs]; rfl
      · rw [textL, hn2, opp_inf, hi, opp_sg, hs]; rfl
    | false =>
      right; right
      refine ⟨105, [110, 102], ?_, ?_, by decide, by decide⟩
      · rw [textL, hn2, opp_inf, hi, opp_sg, hs]; rfl
      · rw [textL, hn, hi, hs]; rfl
  | false =>
    have hi2 : infB (opp x) = false := by rw [opp_inf]; exact hi
    by_cases hz : rg x = 0
    · have t0 : textL 0 = [48] := by
        have h1 : small 0 = true := by unfold small; rw [decide_eq_true_iff]; exact Nat.mul_pos (by omega) EE_pos
        have h2 : tr 0 = 0 := by unfold tr; rw [show un (rg 0) = 0 from rfl, Nat.zero_div]
        have h3 : whole 0 = true := by unfold whole; rw [decide_eq_true_iff, h2, Nat.zero_mul]; exact (rfl : un 0 = 0)
        rw [textL, show nanB 0 = false from rfl, show infB 0 = false from rfl, h1, h3, h2]
        rw [if_neg (by simp), if_neg (by simp), if_neg (by decide), Bool.and_true, if_pos rfl, show (if sg 0 = true then -((0 : Nat) : Int) else ((0 : Nat) : Int)) = ((0 : Nat) : Int) by simp, itoa_nat, dec_small (by omega)]
        rfl
      have t1 : textL 9223372036854775808 = [45, 48] := by
        rw [textL, show nanB 9223372036854775808 = false by decide +kernel, show infB 9223372036854775808 = false by decide +kernel]; rfl
      have hw := word_self hx
      rw [hz, word_val, Nat.add_zero] at hw
      cases hs : sg x with
      | true =>
        rw [hs] at hw
        simp only [if_true] at hw
        subst hw
        have : opp 9223372036854775808 = 0 := by decide +kernel
        right; left
        exact ⟨[48], t1, by rw [this]; exact t0, by decide⟩
      | false =>
        rw [hs] at hw
        simp only [Bool.false_eq_true, if_false] at hw
        subst hw
        have : opp 0 = 9223372036854775808 := by decide +kernel
        right; right
        exact ⟨48, [], by rw [this]; exact t1, t0, by decide, by decide⟩
    · have z1 : x ≠ 9223372036854775808 := fun e => hz (by rw [e]; decide +kernel)
      have z2 : opp x ≠ 9223372036854775808 := fun e => hz (by rw [← opp_rg, e]; decide +kernel)
      cases hsw : (small x && whole x) with
      | false =>
        left
        rw [textL, hn, hi, if_neg z1, hsw]
        simp [hx_len]
      | true =>
        have h1 : small x = true := (Bool.and_eq_true _ _ ▸ hsw).1
        have h2 : whole x = true := (Bool.and_eq_true _ _ ▸ hsw).2
        have ht : 0 < tr x := by
          rcases Nat.eq_zero_or_pos (tr x) with h | h
          · exfalso
            unfold whole at h2
            rw [decide_eq_true_iff, h, Nat.zero_mul] at h2
            exact hz (un_zero h2)
          · exact h
        have hlt := small_tr h1
        have hdl := dec_len 14 (tr x) (by omega)
        obtain ⟨c, t, e, hc⟩ := dec_head (tr x)
        have tx : textL x = Lib.itoa (if sg x then -(tr x : Int) else (tr x : Int)) := by rw [textL, hn, hi, if_neg z1, hsw]; rfl
        have tn : textL (opp x) = Lib.itoa (if !sg x then -(tr x : Int) else (tr x : Int)) := by rw [textL, hn2, hi2, if_neg z2, opp_small, opp_whole, hsw, opp_tr, opp_sg]; rfl
        cases hs : sg x with
        | true =>
          right; left
          rw [hs] at tx tn
          simp only [if_true, Bool.not_true, Bool.false_eq_true, if_false] at tx tn
          rw [itoa_neg ht] at tx
          rw [itoa_nat] at tn
          exact ⟨_, tx, tn, by omega⟩
        | false =>
          right; right
          rw [hs] at tx tn
          simp only [if_true, Bool.not_false, Bool.false_eq_true, if_false] at tx tn
          rw [itoa_neg ht, e] at tn
          rw [itoa_nat, e] at tx
          exact ⟨c, t, tn, tx, hc, by rw [← e]; omega⟩

set_option maxRecDepth 100000 in
set_option maxHeartbeats 2000000 in
theorem Begins_minus (p : ByteArray) (w : World) (v : Bool) (hv : (∃ t, p.data.toList = 45 :: t) ↔ v = true) :
    Calls Tryz.prog 72 #[.string p, .string ⟨#[45]⟩] w fun e w' => e = .returned (.bool v) ∧ w' = w := by
  have hl : p.data.toList.length = p.size := Array.length_toList
  by_cases h1 : 1 ≤ p.size
  · have b1 : (1 : Int) ≤ (p.size : Int) := by omega
    obtain ⟨c, t, e⟩ : ∃ c t, p.data.toList = c :: t := by
      cases h : p.data.toList with
      | nil => rw [h] at hl; simp at hl; omega
      | cons c t => exact ⟨c, t, rfl⟩
    have he : (p.extract 0 1).toList = [c] := by rw [Lib.extract_toList, e]; rfl
    have HV : Hid (((p.extract 0 1).toList == [45]) = v) := by
      rw [Hid, he, Bool.eq_iff_iff, ← hv, beq_iff_eq, e]
      simp
    clear hv hl e he
    go_enter Tryz.func72, Tryz.ntmps72
    go_wp2_with fail
    go_ret
    exact ⟨by rw [← HV.out]; rfl, rfl⟩
  · have b1 : ¬ (1 : Int) ≤ (p.size : Int) := by omega
    have HV : Hid (v = false) := by
      rw [Hid, Bool.eq_false_iff]
      intro h
      obtain ⟨t, e⟩ := hv.2 h
      rw [e] at hl
      simp at hl
      omega
    clear hv hl
    go_enter Tryz.func72, Tryz.ntmps72
    go_wp2_with fail
    go_ret
    exact ⟨by rw [HV.out]; rfl, rfl⟩

theorem shl_zero {x : Nat} (hx : x < 18446744073709551616) : (IntKind.u64.wrap ((x : Int) * 2) == 0) = decide (rg x = 0) := by
  rw [Bool.eq_iff_iff, beq_iff_eq, decide_eq_true_iff]
  unfold rg
  unfold IntKind.wrap
  simp only [IntKind.bits, IntKind.signed]
  simp
  omega
theorem xor_opp {x : Nat} (hx : x < 18446744073709551616) : bits .xor .u64 (x : Int) 9223372036854775808 = (opp x : Int) := by
  have h := u64_xor_nat x 9223372036854775808 hx (by omega)
  have h2 := opp_xor hx
  rw [show (2 : Nat) ^ 63 = 9223372036854775808 from rfl] at h2
  rw [h2] at h
  exact h
theorem nanW_nan : nanB nanW = true := by decide +kernel

end Go.Proofs.YtcmjpkfinbakkaaGreatDoor.Fl

namespace Go.Proofs.YtcmjpkfinbakkaaGreatDoor.Fl
set_option maxRecDepth 100000
open Go.RowKit Ieee
set_option linter.unusedVariables false

/-- The word of a whole number. -/
def sw (n : Int) : Nat := wl (decide (n < 0)) n.natAbs
theorem sv_sw {n : Int} (h : n.natAbs < 9007199254740992) : sv (sw n) = n * (EE : Int) := by
  unfold sw
  rw [sv_wl h]
  generalize EE = E
  by_cases hn : n < 0
  · rw [decide_eq_true hn, if_pos rfl, Int.natCast_mul]
    have : ((n.natAbs : Nat) : Int) = -n := by omega
    rw [this, Int.neg_mul, Int.neg_neg]
  · rw [decide_eq_false hn, if_neg (by simp), Int.natCast_mul]
    have : ((n.natAbs : Nat) : Int) = n := by omega
    rw [this]
theorem wl_num {t : Nat} (ht : t < 9007199254740992) (s : Bool) : ∃ m a, Num (wl s t) m a ∧ m * 2 ^ a = t * EE := by
  obtain ⟨m, a, hn⟩ := num_of (wl_fin ht s)
  refine ⟨m, a, hn, ?_⟩
  rw [← hn.un, (wl_rg s t).1]
  exact (un_fl ht).1
theorem wl_nearest {t : Nat} (ht : t < 9007199254740992) (s : Bool) (M u : Nat) (P : Int) (c : Nat) (hc : EE = 2 ^ c) (hM : M * 2 ^ u = t * EE) (hP : P - (u : Int) = -1074) : D.nearest s M P = wl s t := by
  obtain ⟨m, a, hn, hv⟩ := wl_num ht s
  have h := nearest_val hn s M u a P (by rw [hM, hv]) (by omega)
  rw [h, (wl_rg s t).1]
  have := (fl_word (t := t) s)
  rw [this.1, Nat.mod_eq_of_lt this.2]
theorem sum_val (s t : Bool) (m n i j : Nat) (V : Int) (hV : V.natAbs < 9007199254740992) (h : signed s m i + signed t n j = V * (EE : Int)) (hz : V = 0 → (s && t) = false) :
    ((Datum.number s m (-1074 + (i : Int))).sum (.number t n (-1074 + (j : Int)))).map D.write = some (sw V) := by
  obtain ⟨c, hc, he⟩ := EE_pow
  simp only [Datum.sum, Option.map, Format.write]
  have e1 : (-1074 + (i : Int) - min (-1074 + (i : Int)) (-1074 + (j : Int))).toNat = i - min i j := by omega
  have e2 : (-1074 + (j : Int) - min (-1074 + (i : Int)) (-1074 + (j : Int))).toNat = j - min i j := by omega
  have e3 : min (-1074 + (i : Int)) (-1074 + (j : Int)) = -1074 + ((min i j : Nat) : Int) := by omega
  rw [e1, e2, e3]
  have f : ∀ (s : Bool) (k c : Nat), min i j ≤ c → signed s k (c - min i j) * ((2 ^ min i j : Nat) : Int) = signed s k c := by
    intro s k c hc
    have hp : k * 2 ^ (c - min i j) * 2 ^ min i j = k * 2 ^ c := by rw [Nat.mul_assoc, ← Nat.pow_add, Nat.sub_add_cancel hc]
    rw [signed_eq, signed_eq, ← hp]
    cases s <;> simp [Int.neg_mul]
  have g1 := f s m i (Nat.min_le_left _ _)
  have g2 := f t n j (Nat.min_le_right _ _)
  rw [← g1, ← g2, ← Int.add_mul] at h
  obtain ⟨T, hT⟩ : ∃ T, signed s m (i - min i j) + signed t n (j - min i j) = T := ⟨_, rfl⟩
  rw [hT] at h ⊢
  obtain ⟨q, hq⟩ : ∃ q, min i j = q := ⟨_, rfl⟩
  rw [hq] at h ⊢
  have hp : 0 < 2 ^ q := Nat.two_pow_pos q
  have hE := EE_pos
  have hEi : (0 : Int) < (EE : Int) := by exact_mod_cast hE
  have hpi : (0 : Int) < ((2 ^ q : Nat) : Int) := by exact_mod_cast hp
  have habs : T.natAbs * 2 ^ q = V.natAbs * EE := by
    have := congrArg Int.natAbs h
    rw [Int.natAbs_mul, Int.natAbs_mul, Int.natAbs_natCast, Int.natAbs_natCast] at this
    exact this
  have hlt : T < 0 ↔ V < 0 := by
    constructor
    · intro ht
      rcases (by omega : V < 0 ∨ 0 ≤ V) with hv | hv
      · exact hv
      · have h1 := Int.mul_neg_of_neg_of_pos ht hpi
        have h2 := Int.mul_nonneg hv (Int.le_of_lt hEi)
        omega
    · intro hv
      rcases (by omega : T < 0 ∨ 0 ≤ T) with ht | ht
      · exact ht
      · have h1 := Int.mul_neg_of_neg_of_pos hv hEi
        have h2 := Int.mul_nonneg ht (Int.le_of_lt hpi)
        omega
  have hzz : T = 0 ↔ V = 0 := by
    constructor
    · intro ht
      rw [ht, Int.zero_mul] at h
      rcases Int.mul_eq_zero.1 h.symm with h | h
      · exact h
      · omega
    · intro hv
      rw [hv, Int.zero_mul] at h
      rcases Int.mul_eq_zero.1 h with h | h
      · exact h
      · omega
  refine congrArg some ?_
  rw [wl_nearest hV _ _ q _ c he habs (by omega)]
  unfold sw
  refine congrArg (fun b => wl b V.natAbs) ?_
  by_cases h0 : T = 0
  · rw [if_pos h0, hz (hzz.1 h0), hzz.1 h0]; rfl
  · rw [if_neg h0, decide_eq_decide]; exact hlt
theorem add_sw {A B : Int} (hA : A.natAbs < 9007199254740992) (hB : B.natAbs < 9007199254740992) (h : (A + B).natAbs < 9007199254740992) : D.add (sw A) (sw B) = some (sw (A + B)) := by
  obtain ⟨m, i, h1⟩ := num_of (wl_fin hA (decide (A < 0)))
  obtain ⟨n, j, h2⟩ := num_of (wl_fin hB (decide (B < 0)))
  have v1 := sv_sw hA
  have v2 := sv_sw hB
  unfold sw at v1 v2
  rw [h1.val] at v1
  rw [h2.val] at v2
  unfold Format.add sw
  rw [h1.read, h2.read]
  refine sum_val _ _ m n i j (A + B) h (by rw [v1, v2, ← Int.add_mul]) (fun h0 => ?_)
  rw [(wl_rg _ _).2.1, (wl_rg _ _).2.1, Bool.and_eq_false_iff, decide_eq_false_iff_not, decide_eq_false_iff_not]
  omega
theorem sub_sw {A B : Int} (hA : A.natAbs < 9007199254740992) (hB : B.natAbs < 9007199254740992) (h : (A - B).natAbs < 9007199254740992) : D.sub (sw A) (sw B) = some (sw (A - B)) := by
  obtain ⟨m, i, h1⟩ := num_of (wl_fin hA (decide (A < 0)))
  obtain ⟨n, j, h2⟩ := num_of (wl_fin hB (decide (B < 0)))
  have v1 := sv_sw hA
  have v2 := sv_sw hB
  unfold sw at v1 v2
  rw [h1.val] at v1
  rw [h2.val] at v2
  have v3 : signed (!sg (wl (decide (B < 0)) B.natAbs)) n j = -(B * (EE : Int)) := by
    rw [← v2, signed_eq, signed_eq]
    cases sg (wl (decide (B < 0)) B.natAbs) <;> simp
  unfold Format.sub sw
  rw [h1.read, h2.read]
  refine sum_val _ _ m n i j (A - B) h (by rw [v1, v3, Int.sub_mul]; omega) (fun h0 => ?_)
  rw [(wl_rg _ _).2.1, (wl_rg _ _).2.1, Bool.and_eq_false_iff, Bool.not_eq_false', decide_eq_false_iff_not, decide_eq_true_iff]
  omega
theorem mul_wl {s t : Bool} {a b : Nat} (ha : a < 9007199254740992) (hb : b < 9007199254740992) (h : a * b < 9007199254740992) : D.mul (wl s a) (wl t b) = some (wl (s ^^ t) (a * b)) := by
  obtain ⟨m, i, h1, v1⟩ := wl_num ha s
  obtain ⟨n, j, h2, v2⟩ := wl_num hb t
  obtain ⟨c, hc, he⟩ := EE_pow
  unfold Format.mul
  rw [h1.read, h2.read]
  simp only [Datum.product, Option.map, Format.write]
  rw [(wl_rg _ _).2.1, (wl_rg _ _).2.1]
  obtain ⟨k, p, h3, v3⟩ := wl_num h (s ^^ t)
  have hv : m * n * 2 ^ (i + j) = k * 2 ^ (p + c) := by
    rw [Nat.pow_add, Nat.pow_add, ← he, ← Nat.mul_assoc k, v3, Nat.mul_mul_mul_comm, v1, v2, Nat.mul_mul_mul_comm, ← Nat.mul_assoc]
  have hh := nearest_val h3 (s ^^ t) (m * n) (i + j) (p + c) (-1074 + (i : Int) + (-1074 + (j : Int))) hv (by omega)
  rw [hh, (wl_rg _ _).1]
  have := (fl_word (t := a * b) (s ^^ t))
  rw [this.1, Nat.mod_eq_of_lt this.2]
theorem order_sw {A B : Int} (hA : A.natAbs < 9007199254740992) (hB : B.natAbs < 9007199254740992) : D.order (sw A) (sw B) = some (compare A B) := by
  have n1 : nanB (sw A) = false := nan_fin (wl_fin hA _)
  have n2 : nanB (sw B) = false := nan_fin (wl_fin hB _)
  rw [order_some n1 n2, sv_sw hA, sv_sw hB, compare_scale _ _ _ EE_pos]
end Go.Proofs.YtcmjpkfinbakkaaGreatDoor.Fl

namespace Go.Proofs.YtcmjpkfinbakkaaGreatDoor.Fl
set_option maxRecDepth 100000
open Go.RowKit
set_option linter.unusedVariables false

/-- The tables, from what the row lists. -/
theorem tabs_of {W : World} (h : laidMetH Tryz.prog Rows.toolsCalcRow.laid W) : Tabs W := by
  rw [MakeChecks.laidMetH_plain _ _ _ (by kernel_rfl)] at h
  have h2 := laidMet.tail h
  have h3 := laidMet.tail h2
  have e2 : (Rows.laid_math_bits_deBruijn64tab : DataW Unit) = Lib.tabData .u8 [0, 1, 56, 2, 57, 49, 28, 3, 61, 58, 42, 50, 38, 29, 17, 4, 62, 47, 59, 36, 45, 43, 51, 22, 53, 39, 33, 30, 24, 18, 12, 5, 63, 55, 48, 27, 60, 41, 37, 16, 46, 35, 44, 21, 52, 32, 23, 11, 54, 26, 40, 15, 34, 20, 31, 10, 25, 14, 19, 9, 13, 8, 7, 6] := by kernel_rfl
  have e3 : (Rows.laid_internal_strconv_uint64pow10 : DataW Unit) = Lib.tabData .u64 Lib.pow10Tab := by kernel_rfl
  rw [e2] at h2
  rw [e3] at h3
  have t2 := Lib.tabIs_of_head (P := Tryz.prog) (g := 8) (t := 300) (e := 5) (n := 64) (by kernel_rfl) (by kernel_rfl) Tryz.underlying300 Tryz.underlying5 (by kernel_rfl) (by kernel_rfl) h2
  have t3 := Lib.tabIs_of_head (P := Tryz.prog) (g := 4) (t := 286) (e := 52) (n := 20) (by kernel_rfl) (by kernel_rfl) Tryz.underlying286 Tryz.underlying52 (by kernel_rfl) (by kernel_rfl) h3
  exact ⟨t2.cell (by kernel_rfl) 15 (by decide), t3⟩
end Go.Proofs.YtcmjpkfinbakkaaGreatDoor.Fl

namespace Go.Proofs.YtcmjpkfinbakkaaGreatDoor.Fl
set_option maxRecDepth 100000
open Go.RowKit
set_option linter.unusedVariables false

theorem dec_isDig (n : Nat) : ∀ c ∈ Lib.decDigits n, isDig c = true := by
  induction n using Nat.strongRecOn with
  | _ n ih =>
    have hd : ∀ k : Fin 10, isDig (UInt8.ofNat (48 + k.val)) = true := by decide
    intro c hc
    by_cases h : n < 10
    · rw [dec_small h, List.mem_singleton] at hc
      rw [hc]
      exact hd ⟨n, h⟩
    · rw [dec_big h] at hc
      rcases List.mem_append.1 hc with hc | hc
      · exact ih (n / 10) (by omega) c hc
      · rw [List.mem_singleton] at hc
        rw [hc]
        exact hd ⟨n % 10, Nat.mod_lt _ (by omega)⟩
theorem dval_dec (n : Nat) : dval (Lib.decDigits n) = n := by
  induction n using Nat.strongRecOn with
  | _ n ih =>
    have hd : ∀ k : Fin 10, (UInt8.ofNat (48 + k.val)).toNat - 48 = k.val := by decide
    by_cases h : n < 10
    · rw [dec_small h]
      have := hd ⟨n, h⟩
      simp only at this
      show 0 * 10 + ((UInt8.ofNat (48 + n)).toNat - 48) = n
      omega
    · rw [dec_big h, dval_snoc, ih (n / 10) (by omega)]
      have : (UInt8.ofNat (48 + n % 10)).toNat - 48 = n % 10 := hd ⟨n % 10, Nat.mod_lt _ (by omega)⟩
      omega
theorem numB_of {s : ByteArray} (h1 : 1 ≤ s.size) (h2 : s.size ≤ 15) (h3 : ∀ c ∈ s.data.toList, isDig c = true) : numB s = true := by
  unfold numB lead
  rw [takeWhile_all h3, decide_eq_true h1, decide_eq_true h2]
  simp
theorem hp_mem {s p : ByteArray} (h : hp s p = true) : ∀ c ∈ p.data.toList, c ∈ s.data.toList := by
  unfold hp at h
  rw [Bool.and_eq_true, beq_iff_eq, Lib.extract_toList, Lib.toList_data] at h
  intro c hc
  rw [← h.2] at hc
  exact List.mem_of_mem_take (by simpa using hc)
theorem hp_no {s p : ByteArray} (c : UInt8) (hc : c ∈ p.data.toList) (hs : c ∉ s.data.toList) : hp s p = false := by
  rw [Bool.eq_false_iff]
  intro h
  exact hs (hp_mem h c hc)
theorem sw_nat (n : Nat) : sw (n : Int) = sgw false (fl n) := by
  unfold sw sgw wl fl
  rw [decide_eq_false (by omega : ¬ (n : Int) < 0), Int.natAbs_natCast, if_neg (by simp)]
theorem sw_neg {n : Nat} (h : 0 < n) : sw (-(n : Int)) = sgw true (fl n) := by
  unfold sw
  rw [decide_eq_true (by omega), Int.natAbs_neg, Int.natAbs_natCast]
  have h1 := fl_word (t := n) true
  rw [h1.1, Nat.mod_eq_of_lt h1.2]
  show _ = opp (fl n)
  unfold opp
  have hs : sg (fl n) = false := by unfold sg; simp; omega
  have hr : rg (fl n) = fl n := by unfold rg; omega
  rw [hs, hr]; rfl
theorem textL_wl (s : Bool) (t : Nat) (ht : t < 1000000000000000) : textL (wl s t) = if s = true ∧ t = 0 then [45, 48] else Lib.itoa (if s then -(t : Int) else (t : Int)) := by
  have ht2 : t < 9007199254740992 := by omega
  have hf := wl_fin ht2 s
  have hn := nan_fin hf
  have hi : infB (wl s t) = false := by unfold infB; rw [beq_eq_false_iff_ne]; omega
  have hr := wl_rg s t
  have hu := un_fl ht2
  have htr : tr (wl s t) = t := by unfold tr; rw [hr.1, hu.1, Nat.mul_div_cancel _ EE_pos]
  have hw : whole (wl s t) = true := by unfold whole; rw [decide_eq_true_iff, htr, hr.1, hu.1]
  have hsm : small (wl s t) = true := by unfold small; rw [decide_eq_true_iff, hr.1, hu.1]; exact Nat.mul_lt_mul_of_pos_right ht EE_pos
  have h0 : wl s t = 9223372036854775808 ↔ (s = true ∧ t = 0) := by
    constructor
    · intro e
      have h1 := hr.1
      have h2 := hr.2.1
      rw [e] at h1 h2
      have e1 : rg 9223372036854775808 = 0 := by decide +kernel
      have e2 : sg 9223372036854775808 = true := by decide +kernel
      refine ⟨by rw [← h2, e2], ?_⟩
      have h3 := hu.1
      rw [← h1, e1] at h3
      rcases Nat.mul_eq_zero.1 h3.symm with h | h
      · exact h
      · have := EE_pos; omega
    · rintro ⟨rfl, rfl⟩
      decide +kernel
  unfold textL
  rw [hn, hi, hsm, hw, htr, hr.2.1]
  simp only [Bool.false_eq_true, if_false, h0, Bool.and_self, if_true]
theorem textL_sw (n : Int) (h : n.natAbs < 1000000000000000) : textL (sw n) = Lib.itoa n := by
  unfold sw
  rw [textL_wl _ _ h, if_neg (by rintro ⟨h1, h2⟩; rw [decide_eq_true_iff] at h1; omega)]
  congr 1
  by_cases hn : n < 0
  · rw [decide_eq_true hn, if_pos rfl]; omega
  · rw [decide_eq_false hn, if_neg (by simp)]; omega
theorem prod_text (a b : Int) (h : (a * b).natAbs < 1000000000000000) : textL (wl (decide (a < 0) ^^ decide (b < 0)) (a.natAbs * b.natAbs)) = if a * b = 0 ∧ (a < 0 ∨ b < 0) then [45, 48] else Lib.itoa (a * b) := by
  rw [← Int.natAbs_mul, textL_wl _ _ h]
  by_cases h0 : a * b = 0
  · rw [h0]
    rcases Int.mul_eq_zero.1 h0 with e | e
    · subst e
      by_cases hb : b < 0 <;> simp [hb]
    · subst e
      by_cases ha : a < 0 <;> simp [ha]
  · have hc : ¬ ((decide (a < 0) ^^ decide (b < 0)) = true ∧ (a * b).natAbs = 0) := fun e => h0 (Int.natAbs_eq_zero.1 e.2)
    have ha0 : a ≠ 0 := fun e => h0 (by rw [e, Int.zero_mul])
    have hb0 : b ≠ 0 := fun e => h0 (by rw [e, Int.mul_zero])
    have key : (if (decide (a < 0) ^^ decide (b < 0)) = true then -(((a * b).natAbs : Nat) : Int) else (((a * b).natAbs : Nat) : Int)) = a * b := by
      by_cases ha : a < 0
      · by_cases hb : b < 0
        · have := Int.mul_pos_of_neg_of_neg ha hb
          rw [decide_eq_true ha, decide_eq_true hb, if_neg (by simp)]; omega
        · have := Int.mul_neg_of_neg_of_pos ha (by omega : 0 < b)
          rw [decide_eq_true ha, decide_eq_false hb, if_pos (by simp)]; omega
      · by_cases hb : b < 0
        · have := Int.mul_neg_of_pos_of_neg (by omega : 0 < a) hb
          rw [decide_eq_false ha, decide_eq_true hb, if_pos (by simp)]; omega
        · have := Int.mul_pos (by omega : 0 < a) (by omega : 0 < b)
          rw [decide_eq_false ha, decide_eq_false hb, if_neg (by simp)]; omega
    rw [key, if_neg hc, if_neg (fun e => h0 e.1)]

theorem Of_int (n : Int) (h : n.natAbs ≤ 33554432) (w : World) :
    Calls Tryz.prog 114 #[.string ⟨(Lib.itoa n).toArray⟩] w fun e w' => e = .returned (.tuple #[.int .u64 (sw n), .bool true]) ∧ Below w.heap.size w w' := by
  by_cases hn : n < 0
  · obtain ⟨m, rfl⟩ : ∃ m : Nat, n = -(m : Int) := ⟨n.natAbs, by omega⟩
    have hm : 0 < m := by omega
    have hl := dec_len 7 m (by omega)
    obtain ⟨c, t, e, _⟩ := dec_head m
    have hp1 : 1 ≤ (Lib.decDigits m).length := by rw [e]; simp
    rw [itoa_neg hm, sw_neg hm]
    have hdg := dec_isDig m
    have hno : ∀ c : UInt8, isDig c = false → c ≠ 45 → c ∉ (45 :: Lib.decDigits m) := by
      intro c h1 h2 h3
      rcases List.mem_cons.1 h3 with h | h
      · exact h2 h
      · rw [hdg c h] at h1; cases h1
    have hcut : (⟨(45 :: Lib.decDigits m).toArray⟩ : ByteArray).extract 1 (⟨(45 :: Lib.decDigits m).toArray⟩ : ByteArray).size = ⟨(Lib.decDigits m).toArray⟩ := by
      refine ByteArray.ext (Array.ext' ?_)
      rw [← Lib.toList_data, Lib.extract_toList]
      show List.drop 1 (List.take (45 :: Lib.decDigits m).length (45 :: Lib.decDigits m)) = _
      rw [List.take_length]; rfl
    have hh : hp ⟨(45 :: Lib.decDigits m).toArray⟩ ⟨#[45]⟩ = true := by
      unfold hp
      rw [Bool.and_eq_true, decide_eq_true_iff, beq_iff_eq, Lib.extract_toList, Lib.toList_data]
      refine ⟨?_, rfl⟩
      show 1 ≤ (45 :: Lib.decDigits m).length
      simp
    have h2 := Of_neg ⟨(45 :: Lib.decDigits m).toArray⟩ w (by show (45 :: Lib.decDigits m).length ≤ _; simp; omega) (hp_no 120 (by simp) (hno 120 (by decide) (by decide))) hh ⟨(Lib.decDigits m).toArray⟩ hcut
      (numB_of (by show 1 ≤ (Lib.decDigits m).length; exact hp1) (by show (Lib.decDigits m).length ≤ 15; omega) hdg)
    have e2 : dval (⟨(Lib.decDigits m).toArray⟩ : ByteArray).data.toList = m := dval_dec m
    rw [e2] at h2
    exact h2
  · obtain ⟨m, rfl⟩ : ∃ m : Nat, n = (m : Int) := ⟨n.toNat, by omega⟩
    have hl := dec_len 7 m (by omega)
    obtain ⟨c, t, e, _⟩ := dec_head m
    have hp1 : 1 ≤ (Lib.decDigits m).length := by rw [e]; simp
    rw [itoa_nat, sw_nat]
    have hdg := dec_isDig m
    have hno : ∀ c : UInt8, isDig c = false → c ∉ Lib.decDigits m := by
      intro c h1 h3
      rw [hdg c h3] at h1; cases h1
    have h2 := Of_num ⟨(Lib.decDigits m).toArray⟩ w (by show (Lib.decDigits m).length ≤ _; omega) (hp_no 120 (by simp) (hno 120 (by decide))) (hp_no 45 (by simp) (hno 45 (by decide))) (hp_no 43 (by simp) (hno 43 (by decide)))
      (numB_of (by show 1 ≤ (Lib.decDigits m).length; exact hp1) (by show (Lib.decDigits m).length ≤ 15; omega) hdg)
    have e2 : dval (⟨(Lib.decDigits m).toArray⟩ : ByteArray).data.toList = m := dval_dec m
    rw [e2] at h2
    exact h2
theorem wraps {n : Int} (h : n.natAbs ≤ 4503599627370496) : IntKind.i64.wrap n = n ∧ wrap64 n = n := by
  refine ⟨by rw [IntKind.wrap_i64]; omega, by unfold wrap64; omega⟩

end Go.Proofs.YtcmjpkfinbakkaaGreatDoor.Fl

namespace Go.Proofs.YtcmjpkfinbakkaaGreatDoor.Fl
set_option maxRecDepth 100000
open Go.RowKit
set_option linter.unusedVariables false

theorem low_or : ∀ k : Fin 6, bits .or .u8 ((97 + k.val : Nat) : Int) 32 = ((97 + k.val : Nat) : Int) := by decide +kernel
set_option maxRecDepth 100000 in
set_option maxHeartbeats 1000000 in
theorem lower_any (c : Nat) (h1 : 97 ≤ c) (h2 : c ≤ 102) (w : World) : Calls Tryz.prog 276 #[.int .u8 c] w fun e w' => e = .returned (.int .u8 c) ∧ w' = w := by
  have h := low_or ⟨c - 97, by omega⟩
  simp only [show 97 + (c - 97) = c by omega] at h
  go_enter Tryz.func276, Tryz.ntmps276
  go_wp2_with fail
  go_ret
  exact ⟨rfl, rfl⟩
theorem hv_cases {c : UInt8} (h : hv c < 16) : (48 ≤ c.toNat ∧ c.toNat ≤ 57 ∧ hv c = c.toNat - 48) ∨ (97 ≤ c.toNat ∧ c.toNat ≤ 102 ∧ hv c = c.toNat - 87) := by
  unfold hv at h ⊢
  split at h
  · rename_i h1; left; rw [if_pos h1]; omega
  · rename_i h1
    split at h
    · rename_i h2; right; rw [if_neg h1, if_pos h2]; omega
    · omega
theorem hval_take {l : Bs} {k : Nat} (hd : ∀ c ∈ l, hv c < 16) (hk : k < l.length) : hval (l.take (k + 1)) = hval (l.take k) * 16 + hv (l.getD k 0) ∧ hval (l.take k) < 16 ^ k ∧ hv (l.getD k 0) < 16 := by
  have hg : l.getD k 0 = l[k] := by rw [List.getD_eq_getElem?_getD, List.getElem?_eq_getElem hk]; rfl
  refine ⟨?_, ?_, ?_⟩
  · rw [List.take_add_one, List.getElem?_eq_getElem hk, hg]
    exact hval_snoc _ _
  · have := hval_lt (l.take k) (fun c hc => hd c (List.mem_of_mem_take hc))
    rw [List.length_take, Nat.min_eq_left (by omega)] at this
    exact this
  · rw [hg]; exact hd _ (List.getElem_mem hk)
theorem pow_bound {k n d : Nat} (hk : k < 16) (hn : n < 16 ^ k) (hd : d < 16) : n < 1152921504606846976 ∧ n * 16 + d < 18446744073709551616 := by
  have h : 16 ^ k ≤ 16 ^ 15 := Nat.pow_le_pow_right (by omega) (by omega)
  have e : (16 : Nat) ^ 15 = 1152921504606846976 := by decide
  omega
theorem round_facts {n d : Nat} (h1 : n < 1152921504606846976) (h2 : n * 16 + d < 18446744073709551616) (hd : d < 16) :
    ¬ (1152921504606846976 : Int) ≤ (n : Int) ∧ IntKind.u64.wrap ((n : Int) * 16) = ((n * 16 : Nat) : Int) ∧ IntKind.u64.wrap (((n * 16 : Nat) : Int) + (d : Int)) = ((n * 16 + d : Nat) : Int) ∧ ¬ ((n * 16 + d : Nat) : Int) < ((n * 16 : Nat) : Int) ∧ ¬ (18446744073709551615 : Int) < ((n * 16 + d : Nat) : Int) ∧ ¬ (16 : Int) ≤ (d : Int) := by
  refine ⟨by omega, by rw [IntKind.wrap_u64]; omega, by rw [IntKind.wrap_u64]; omega, by omega, by omega, by omega⟩
theorem dig_sub {c d : Nat} (h : 48 ≤ c) (h2 : c ≤ 57) (e : d = c - 48) : IntKind.u8.wrap ((c : Int) - 48) = (d : Int) ∧ (48 : Int) ≤ (c : Int) ∧ (c : Int) ≤ 57 ∧ ((c : Int) == 95) = false := by
  refine ⟨by rw [IntKind.wrap_u8]; omega, by omega, by omega, by rw [beq_eq_false_iff_ne]; omega⟩
theorem let_sub {c d : Nat} (h : 97 ≤ c) (h2 : c ≤ 102) (e : d = c - 87) : IntKind.u8.wrap ((c : Int) - 97) = ((c - 97 : Nat) : Int) ∧ IntKind.u8.wrap (((c - 97 : Nat) : Int) + 10) = (d : Int) ∧ ¬ (c : Int) ≤ 57 ∧ (48 : Int) ≤ (c : Int) ∧ (97 : Int) ≤ (c : Int) ∧ (c : Int) ≤ 122 ∧ ((c : Int) == 95) = false := by
  refine ⟨by rw [IntKind.wrap_u8]; omega, by rw [IntKind.wrap_u8]; omega, by omega, by omega, by omega, by omega, by rw [beq_eq_false_iff_ne]; omega⟩

set_option maxRecDepth 100000 in
set_option maxHeartbeats 4000000 in
theorem Parse_in (s : ByteArray) (w : World) (hs : 1 ≤ s.size ∧ s.size ≤ 16) (hd : ∀ c ∈ s.data.toList, hv c < 16) :
    Calls Tryz.prog 250 #[.string s, .int .i64 16, .int .i64 64] w fun e w' => e = .returned (.tuple #[.int .u64 (hval s.data.toList), .nilIface]) ∧ Below w.heap.size w w' := by
  have hl : s.data.toList.length = s.size := Array.length_toList
  have he : s.toList.isEmpty = false := by
    rw [Lib.toList_data]
    cases h : s.data.toList with
    | nil => rw [h] at hl; simp at hl; omega
    | cons a t => rfl
  have HD := Lib.hid hd
  have HS := Lib.hid hs
  have HLL := Lib.hid hl
  have hconv := Lib.run_convert_string_bytes (P := Tryz.prog) w 9 41 5 s Tryz.underlying9 Tryz.underlying41 Tryz.underlying5
  have HB := Lib.hid (bw_below w 5 s)
  have HC := Lib.hid (fun j hj => Lib.bytesWorld_cell w 5 s j hj)
  generalize Lib.bytesWorld w 5 s = W at *
  generalize grownCap w s.size 0 5 = C at *
  obtain ⟨R, hR⟩ : ∃ R, hval s.data.toList = R := ⟨_, rfl⟩
  rw [hR]
  have HR := Lib.hid hR
  have mv : IntKind.u64.wrap (IntKind.u64.wrap 18446744073709551616 - 1) = 18446744073709551615 := by decide +kernel
  clear hs hd hl hR
  go_enter Tryz.func250, Tryz.ntmps250
  go_wp2_with fail
  go_loop [12, 13, 101] (fun ua na ia => ∃ k : Nat, ua = .bool false ∧ na = .int .u64 (hval (s.data.toList.take k) : Nat) ∧ ia = .int .i64 k ∧ k ≤ s.size) (fun _ _ ia => s.size - (intOf ia).toNat)
  case atStart => exact ⟨0, rfl, rfl, rfl, by omega⟩
  case round =>
    obtain ⟨k, rfl, rfl, rfl, hk⟩ := hrel
    by_cases hlt : k < s.size
    · have hltI : (k : Int) < (s.size : Int) := by omega
      have hc := HC.out k hlt
      obtain ⟨f1, f2, f3⟩ := hval_take HD.out (by rw [HLL.out]; exact hlt)
      have hk16 : k < 16 := by have := HS.out.2; omega
      obtain ⟨g1, g2⟩ := pow_bound hk16 f2 f3
      obtain ⟨r1, r2, r3, r4, r5, r6⟩ := round_facts g1 g2 f3
      have hcs := hv_cases f3
      have HN := Lib.hid f1
      change W.cell? _ = some (.int .u8 ((s.data.toList.getD k 0).toNat : Nat)) at hc
      obtain ⟨d, hdd⟩ : ∃ d, hv (s.data.toList.getD k 0) = d := ⟨_, rfl⟩
      obtain ⟨c, hcc⟩ : ∃ c, (s.data.toList.getD k 0).toNat = c := ⟨_, rfl⟩
      obtain ⟨n, hnn⟩ : ∃ n, hval (s.data.toList.take k) = n := ⟨_, rfl⟩
      obtain ⟨n16, hn16⟩ : ∃ m, n * 16 = m := ⟨_, rfl⟩
      obtain ⟨nd, hnd⟩ : ∃ m, n16 + d = m := ⟨_, rfl⟩
      rw [hdd] at hcs HN r3 r4 r5 r6
      rw [hcc] at hc hcs
      rw [hnn] at HN r1 r2 r3 r4 r5
      rw [hn16] at r2 r3 r4 r5 HN
      rw [hnd] at r3 r4 r5 HN
      rw [hnn]
      clear f1 f2 f3 g1 g2 hdd hcc hnn hn16 hnd
      rcases hcs with ⟨q1, q2, q3⟩ | ⟨q1, q2, q3⟩
      · obtain ⟨s1, s2, s3, s4⟩ := dig_sub q1 q2 q3
        clear q1 q2 q3
        go_wp2_with fail
        exact ⟨⟨k + 1, rfl, by rw [HN.out], by go_num, by omega⟩, by simp [intOf]; omega⟩
      · obtain ⟨s1, s2, s3, s4, s5, s6, s7⟩ := let_sub q1 q2 q3
        have HLow := Lib.hid (fun w => lower_any c q1 q2 w)
        obtain ⟨m, hm⟩ : ∃ m : Int, ((c - 97 : Nat) : Int) = m := ⟨_, rfl⟩
        rw [hm] at s1 s2
        clear q1 q2 q3 hm
        go_wp2_with fail
        refine (HLow.out W).mono ?_
        rintro e w' ⟨rfl, h⟩
        obtain rfl := h.symm
        simp only []
        go_wp2_with fail
        refine (HLow.out W).mono ?_
        rintro e w' ⟨rfl, h⟩
        obtain rfl := h.symm
        simp only []
        go_wp2_with fail
        refine (HLow.out W).mono ?_
        rintro e w' ⟨rfl, h⟩
        obtain rfl := h.symm
        simp only []
        replace r1 := Int.not_le.mpr r1
        replace r4 := Int.not_lt.mpr r4
        replace r5 := Int.not_lt.mpr r5
        replace r6 := Int.not_le.mpr r6
        replace s3 := Int.not_le.mpr s3
        go_wp2_with fail
        exact ⟨⟨k + 1, rfl, by rw [HN.out], by go_num, by omega⟩, by simp [intOf]; omega⟩
    · have hltI : ¬ (k : Int) < (s.size : Int) := by omega
      have HE : Hid (hval (s.data.toList.take k) = R) := by rw [Hid, List.take_of_length_le (by rw [HLL.out]; omega)]; exact HR.out
      rw [HE.out]
      go_wp2_with fail
      go_ret2
      exact ⟨rfl, HB.out⟩

set_option maxRecDepth 100000 in
set_option maxHeartbeats 1000000 in
theorem ParseUint_any (s : ByteArray) (w : World) (hs : 1 ≤ s.size ∧ s.size ≤ 16) (hd : ∀ c ∈ s.data.toList, hv c < 16) :
    Calls Tryz.prog 209 #[.string s, .int .i64 16, .int .i64 64] w fun e w' => e = .returned (.tuple #[.int .u64 (hval s.data.toList), .nilIface]) ∧ Below w.heap.size w w' := by
  have H := Lib.hid (Parse_in s w hs hd)
  obtain ⟨R, hR⟩ : ∃ R, hval s.data.toList = R := ⟨_, rfl⟩
  rw [hR] at H ⊢
  clear hs hd hR
  go_enter Tryz.func209, Tryz.ntmps209
  go_wp2_with fail
  refine H.out.mono ?_
  rintro e w' ⟨rfl, hB⟩
  have HB := Lib.hid hB
  clear hB
  go_wp2_with fail
  go_ret2
  exact ⟨rfl, HB.out⟩
end Go.Proofs.YtcmjpkfinbakkaaGreatDoor.Fl

namespace Go.Proofs.YtcmjpkfinbakkaaGreatDoor.Fl
set_option maxRecDepth 100000
open Go.RowKit
set_option linter.unusedVariables false

theorem Of_int15 (n : Int) (h : n.natAbs < 1000000000000000) (w : World) :
    Calls Tryz.prog 114 #[.string ⟨(Lib.itoa n).toArray⟩] w fun e w' => e = .returned (.tuple #[.int .u64 (sw n), .bool true]) ∧ Below w.heap.size w w' := by
  by_cases hn : n < 0
  · obtain ⟨m, rfl⟩ : ∃ m : Nat, n = -(m : Int) := ⟨n.natAbs, by omega⟩
    have hm : 0 < m := by omega
    have hl := dec_len 14 m (by omega)
    obtain ⟨c, t, e, _⟩ := dec_head m
    have hp1 : 1 ≤ (Lib.decDigits m).length := by rw [e]; simp
    rw [itoa_neg hm, sw_neg hm]
    have hdg := dec_isDig m
    have hno : ∀ c : UInt8, isDig c = false → c ≠ 45 → c ∉ (45 :: Lib.decDigits m) := by
      intro c h1 h2 h3
      rcases List.mem_cons.1 h3 with h | h
      · exact h2 h
      · rw [hdg c h] at h1; cases h1
    have hcut : (⟨(45 :: Lib.decDigits m).toArray⟩ : ByteArray).extract 1 (⟨(45 :: Lib.decDigits m).toArray⟩ : ByteArray).size = ⟨(Lib.decDigits m).toArray⟩ := by
      refine ByteArray.ext (Array.ext' ?_)
      rw [← Lib.toList_data, Lib.extract_toList]
      show List.drop 1 (List.take (45 :: Lib.decDigits m).length (45 :: Lib.decDigits m)) = _
      rw [List.take_length]; rfl
    have hh : hp ⟨(45 :: Lib.decDigits m).toArray⟩ ⟨#[45]⟩ = true := by
      unfold hp
      rw [Bool.and_eq_true, decide_eq_true_iff, beq_iff_eq, Lib.extract_toList, Lib.toList_data]
      refine ⟨?_, rfl⟩
      show 1 ≤ (45 :: Lib.decDigits m).length
      simp
    have h2 := Of_neg ⟨(45 :: Lib.decDigits m).toArray⟩ w (by show (45 :: Lib.decDigits m).length ≤ _; simp; omega) (hp_no 120 (by simp) (hno 120 (by decide) (by decide))) hh ⟨(Lib.decDigits m).toArray⟩ hcut
      (numB_of (by show 1 ≤ (Lib.decDigits m).length; exact hp1) (by show (Lib.decDigits m).length ≤ 15; omega) hdg)
    have e2 : dval (⟨(Lib.decDigits m).toArray⟩ : ByteArray).data.toList = m := dval_dec m
    rw [e2] at h2
    exact h2
  · obtain ⟨m, rfl⟩ : ∃ m : Nat, n = (m : Int) := ⟨n.toNat, by omega⟩
    have hl := dec_len 14 m (by omega)
    obtain ⟨c, t, e, _⟩ := dec_head m
    have hp1 : 1 ≤ (Lib.decDigits m).length := by rw [e]; simp
    rw [itoa_nat, sw_nat]
    have hdg := dec_isDig m
    have hno : ∀ c : UInt8, isDig c = false → c ∉ Lib.decDigits m := by
      intro c h1 h3
      rw [hdg c h3] at h1; cases h1
    have h2 := Of_num ⟨(Lib.decDigits m).toArray⟩ w (by show (Lib.decDigits m).length ≤ _; omega) (hp_no 120 (by simp) (hno 120 (by decide))) (hp_no 45 (by simp) (hno 45 (by decide))) (hp_no 43 (by simp) (hno 43 (by decide)))
      (numB_of (by show 1 ≤ (Lib.decDigits m).length; exact hp1) (by show (Lib.decDigits m).length ≤ 15; omega) hdg)
    have e2 : dval (⟨(Lib.decDigits m).toArray⟩ : ByteArray).data.toList = m := dval_dec m
    rw [e2] at h2
    exact h2
end Go.Proofs.YtcmjpkfinbakkaaGreatDoor.Fl

namespace Go.Proofs
open Go.Shelf
open Go.RowKit in
theorem Tryz.strings_Trim_laid (s cutset : ByteArray) (w : World) (hs : s.size ≤ 9223372036854775807) (hcs : cutset.size < 4294967281) (hascii : ∀ (j : Nat) b, cutset.data.toList[j]? = some b → b.toNat < 128) :
    Calls Tryz.prog 208 #[.string s, .string cutset] w fun e w' => e = .returned (.string ⟨(Lib.trimS s.data.toList cutset.data.toList).toArray⟩) ∧ Below w.heap.size w w' :=
  Any.strings_Trim_laid Tryz.lays160 (by kernel_rfl) s cutset w hs hcs hascii
end Go.Proofs
