import Derived.Test.YtjagnihkpgbjeaaDoorHI
namespace Go.Proofs.YtjagnihkpgbjeaaDoor
open Go.RowKit Go.Maps Go.ChangeMaps
set_option linter.unusedVariables false
/-! Numbers in names; chains and rings of targets. -/
def dg (i : Nat) : Bs := if i < 10 then [UInt8.ofNat (48 + i)] else [UInt8.ofNat (48 + i / 10), UInt8.ofNat (48 + i % 10)]
def digB : ByteArray := ⟨#[48, 49, 50, 51, 52, 53, 54, 55, 56, 57]⟩
theorem dig_at : ∀ n : Fin 10, digB.extract n.val (n.val + 1) = nameB (dg n.val) := by decide
theorem nameB_list (l : Bs) : (nameB l).data.toList = l := by unfold nameB; simp
theorem nameB_size (l : Bs) : (nameB l).size = l.length := by unfold nameB; simp [ByteArray.size]
theorem nameB_app (a b : Bs) : nameB a ++ nameB b = nameB (a ++ b) := by
  refine ByteArray.ext (Array.toList_inj.1 ?_)
  rw [ByteArray.data_append, Array.toList_append, nameB_list, nameB_list, nameB_list]
set_option maxRecDepth 100000 in
set_option maxHeartbeats 4000000 in
theorem Digits_lo (n : Nat) (hn : n < 10) (w : World) : Calls Tryd.prog 26 #[.int .i64 n] w fun e w' => e = .returned (.string (nameB (dg n))) ∧ w' = w := by
  have h1 : Int.tmod (n : Int) 10 = (n : Int) := by rw [Int.tmod_eq_emod_of_nonneg (by omega)]; omega
  have hb : IntKind.i64.wrap ((n : Int) + 1) = (n : Int) + 1 := IntWalk.i64_in _ (by omega)
  have hd : decide ((9 : Int) < (n : Int)) = false := decide_eq_false (by omega)
  have he : (⟨#[48, 49, 50, 51, 52, 53, 54, 55, 56, 57]⟩ : ByteArray).extract n (n + 1) = nameB (dg n) := dig_at ⟨n, hn⟩
  have hn0 : (0 : Int) ≤ (n : Int) := by omega
  have hn1 : (n : Int) ≤ (n : Int) + 1 := by omega
  have hn2 : (n : Int) + 1 ≤ 10 := by omega
  obtain ⟨E, hE⟩ : ∃ E, nameB (dg n) = E := ⟨_, rfl⟩
  rw [hE] at he ⊢
  clear hE
  go_enter Tryd.func26, Tryd.ntmps26
  go_wp2_with fail
  go_ret
  exact ⟨rfl, rfl⟩
set_option maxRecDepth 100000 in
set_option maxHeartbeats 4000000 in
theorem Digits_any (n : Nat) (hn : n < 100) (w : World) : Calls Tryd.prog 26 #[.int .i64 n] w fun e w' => e = .returned (.string (nameB (dg n))) ∧ w' = w := by
  by_cases h10 : n < 10
  · exact Digits_lo n h10 w
  obtain ⟨q, hq⟩ : ∃ q, n % 10 = q := ⟨_, rfl⟩
  obtain ⟨p, hp⟩ : ∃ p, n / 10 = p := ⟨_, rfl⟩
  have h1 : Int.tmod (n : Int) 10 = (q : Int) := by rw [Int.tmod_eq_emod_of_nonneg (by omega)]; omega
  have h2 : Int.tdiv (n : Int) 10 = (p : Int) := by rw [Int.tdiv_eq_ediv_of_nonneg (by omega)]; omega
  have hb : IntKind.i64.wrap ((q : Int) + 1) = (q : Int) + 1 := IntWalk.i64_in _ (by omega)
  have hb2 : IntKind.i64.wrap (p : Int) = (p : Int) := IntWalk.i64_in _ (by omega)
  have hd : decide ((9 : Int) < (n : Int)) = true := decide_eq_true (by omega)
  have he : (⟨#[48, 49, 50, 51, 52, 53, 54, 55, 56, 57]⟩ : ByteArray).extract q (q + 1) = nameB (dg q) := dig_at ⟨q, by omega⟩
  have hn0 : (0 : Int) ≤ (q : Int) := by omega
  have hn1 : (q : Int) ≤ (q : Int) + 1 := by omega
  have hn2 : (q : Int) + 1 ≤ 10 := by omega
  have HD := Lib.hid (Digits_lo p (by omega) w)
  have hdg : nameB (dg n) = nameB (dg p) ++ nameB (dg q) := by
    rw [nameB_app]
    unfold dg
    rw [if_neg h10, if_pos (by omega), if_pos (by omega), hp, hq]; rfl
  have hs1 : (nameB (dg p)).size = 1 := by rw [nameB_size]; unfold dg; rw [if_pos (by omega)]; rfl
  have hs2 : (nameB (dg q)).size = 1 := by rw [nameB_size]; unfold dg; rw [if_pos (by omega)]; rfl
  rw [hdg]
  obtain ⟨E, hE⟩ : ∃ E, nameB (dg q) = E := ⟨_, rfl⟩
  obtain ⟨F, hF⟩ : ∃ F, nameB (dg p) = F := ⟨_, rfl⟩
  rw [hE] at he hs2 ⊢
  rw [hF] at HD hs1 ⊢
  have hz : ¬ (9223372036854775807 < F.size + E.size) := by omega
  clear hE hF hdg hs1 hs2 hp hq
  go_enter Tryd.func26, Tryd.ntmps26
  go_wp2_with (go_at_call 26; refine HD.out.mono ?_; rintro e w5 ⟨rfl, h5⟩; obtain rfl := h5.symm; simp only [])
  go_ret
  exact ⟨rfl, rfl⟩
def tn (i : Nat) : Bs := 116 :: dg i
theorem dg_len (i : Nat) : (dg i).length ≤ 2 := by unfold dg; split <;> simp
theorem tn_ok : ∀ i : Fin 61, okB (tn i.val) = true := by decide
theorem tn_pct : ∀ i : Fin 61, pct (tn i.val) = false := by decide
theorem tn_inj : ∀ i j : Fin 61, tn i.val = tn j.val → i = j := by decide
theorem tn_u : ∀ i : Fin 61, tn i.val ≠ [117] := by decide
/-- The needs of the i-th of n targets. -/
def nsR (n back i : Nat) : List Bs := if i + 1 < n then [tn (i + 1)] else if back < n then [tn back] else []
def rsR (n back m : Nat) : List Rl := (List.range m).map fun i => ⟨[tn i], nsR n back i, []⟩
theorem rsR_succ (n back m : Nat) : rsR n back (m + 1) = rsR n back m ++ [⟨[tn m], nsR n back m, []⟩] := by unfold rsR; rw [List.range_succ, List.map_append]; rfl
theorem makes_tn (n back i j : Nat) (hi : i < 61) (hj : j < 61) : makesF ⟨[tn i], nsR n back i, []⟩ (tn j) = decide (i = j) := by
  have hp : pct (tn i) = false := tn_pct ⟨i, hi⟩
  unfold makesF isPlainF
  by_cases h : i = j
  · subst h; simp [hp]
  · have : tn j ≠ tn i := fun e => h (by have := tn_inj ⟨j, hj⟩ ⟨i, hi⟩ e; injection this with this; exact this.symm)
    simp [h, this]
theorem plain_tn (n back : Nat) (j : Nat) (hj : j < 61) : ∀ m, m ≤ 61 → plainF (rsR n back m) (tn j) = if j < m then [⟨[tn j], nsR n back j, []⟩] else []
  | 0, _ => by simp [rsR, plainF]
  | m + 1, hm => by
    have ih := plain_tn n back j hj m (by omega)
    have hmk := makes_tn n back m j (by omega) hj
    rw [rsR_succ]
    unfold plainF at ih ⊢
    rw [List.filter_append, ih]
    by_cases h1 : j < m
    · rw [if_pos h1, if_pos (by omega), List.filter_cons, hmk, decide_eq_false (by omega)]; rfl
    · rw [if_neg h1]
      by_cases h2 : m = j
      · subst h2
        rw [if_pos (by omega), List.filter_cons, hmk, decide_eq_true rfl]; rfl
      · rw [if_neg (by omega), List.filter_cons, hmk, decide_eq_false h2]; rfl
theorem gg_tn (n back j : Nat) (hj : j < n) (hn : n ≤ 60) : GG (rsR n back n) (tn j) = ⟨nsR n back j, [], true⟩ := by
  show planL (plainF (rsR n back n) (tn j)) = _
  rw [plain_tn n back j (by omega) n (by omega), if_pos hj]
  unfold planL
  rw [List.foldl_cons, List.foldl_nil, if_pos rfl]
  have : addF [] (nsR n back j) = nsR n back j := by
    unfold nsR
    split
    · rfl
    · split <;> rfl
  rw [this]
theorem gg_u (n back : Nat) (hn : n ≤ 60) : GG (rsR n back n) [117] = ⟨[], [], false⟩ := by
  have h : plainF (rsR n back n) [117] = [] := by
    unfold plainF
    rw [List.filter_eq_nil_iff]
    intro r hr
    unfold rsR at hr
    obtain ⟨i, hi, rfl⟩ := List.mem_map.1 hr
    have hi := List.mem_range.1 hi
    have := tn_u ⟨i, by omega⟩
    unfold makesF
    simp [Ne.symm this]
  show planL (plainF (rsR n back n) [117]) = _
  rw [h]; rfl
/-- A walk's state with the first i targets open. -/
structure Chn (s : GS) (n i : Nat) : Prop where
  lo : ∀ j, j < i → s.st (tn j) = 1
  hi : ∀ j, i ≤ j → j < n → s.st (tn j) = 0
  re : s.reached = i
  ne : s.nested = i
theorem Chn.open {s : GS} {n i : Nat} (h : Chn s n i) (hi : i < n) (hn : n ≤ 60) : Chn (openS s (tn i)) n (i + 1) := by
  refine ⟨fun j hj => ?_, fun j hj hjn => ?_, by show s.reached + 1 = i + 1; rw [h.re], by show s.nested + 1 = i + 1; rw [h.ne]⟩
  · show setS s.st (tn i) 1 (tn j) = 1
    unfold setS
    by_cases e : tn j = tn i
    · rw [if_pos e]
    · rw [if_neg e]
      refine h.lo j ?_
      by_cases e2 : j = i
      · subst e2; exact absurd rfl e
      · omega
  · show setS s.st (tn i) 1 (tn j) = 0
    unfold setS
    rw [if_neg (fun e => by have := tn_inj ⟨j, by omega⟩ ⟨i, by omega⟩ e; injection this with this; omega)]
    exact h.hi j (by omega) hjn
def chL (n back i : Nat) : List Bs := if i < n then [tn i] else if back < n then [tn back] else []
theorem nsR_chL (n back i : Nat) (hi : i < n) : nsR n back i = chL n back (i + 1) := rfl
def ordR (n i : Nat) : List Bs := ((List.range (n - i)).map fun d => tn (n - 1 - d))
theorem ordR_step (n i : Nat) (hi : i < n) : ordR n i = ordR n (i + 1) ++ [tn i] := by
  unfold ordR
  rw [show n - i = (n - (i + 1)) + 1 by omega, List.range_succ, List.map_append]
  simp only [List.map_cons, List.map_nil]
  rw [show n - 1 - (n - (i + 1)) = i by omega]
theorem chain_ok {n : Nat} (hn : n ≤ 60) : ∀ (d i F : Nat) (s : GS), i + d = n → d + 1 ≤ F → Chn s n i → ∃ s', sortF (GG (rsR n n n)) (thF newT) F (chL n n i) s = some (0, s') ∧ s'.order = s.order ++ ordR n i ∧ s'.nested = i
  | 0, i, F, s, hd, hF, h => by
    obtain ⟨m, rfl⟩ : ∃ m, F = m + 1 := ⟨F - 1, by omega⟩
    refine ⟨s, ?_, ?_, h.ne⟩
    · rw [show chL n n i = [] by unfold chL; rw [if_neg (by omega), if_neg (by omega)]]; rfl
    · unfold ordR; rw [show n - i = 0 by omega]; simp
  | d + 1, i, F, s, hd, hF, h => by
    obtain ⟨m, rfl⟩ : ∃ m, F = m + 1 := ⟨F - 1, by omega⟩
    have hi : i < n := by omega
    obtain ⟨s1, e1, e2, e3⟩ := chain_ok hn d (i + 1) m (openS s (tn i)) (by omega) (by omega) (h.open hi hn)
    have hok := tn_ok ⟨i, by omega⟩
    have h0 := h.hi i (Nat.le_refl _) hi
    have hg := gg_tn n n i hi hn
    refine ⟨closeS s1 (tn i), ?_, ?_, ?_⟩
    · rw [show chL n n i = [tn i] by unfold chL; rw [if_pos hi], sortF, if_neg (by rw [hok]; simp), if_neg (by rw [h0]; decide), if_neg (by rw [h0]; decide), if_neg (by rw [h.re, h.ne]; omega), if_neg (by rw [hg]; simp), hg]
      show (match sortF (GG (rsR n n n)) (thF newT) m (chL n n (i + 1)) (openS s (tn i)) with | none => none | some (e, s1) => _) = _
      rw [e1]
      simp only [if_true]
      rw [if_neg (by rw [e3]; omega)]
      obtain ⟨m', rfl⟩ : ∃ m', m = m' + 1 := ⟨m - 1, by omega⟩
      rfl
    · show s1.order ++ [tn i] = _
      rw [e2, ordR_step n i hi, ← List.append_assoc]; rfl
    · show s1.nested - 1 = i
      rw [e3]; omega
theorem chain_ring {n back : Nat} (hn : n ≤ 60) (hb : back < n) : ∀ (d i F : Nat) (s : GS), i + d = n → d + 1 ≤ F → Chn s n i → ∃ s', sortF (GG (rsR n back n)) (thF newT) F (chL n back i) s = some (18, s')
  | 0, i, F, s, hd, hF, h => by
    obtain ⟨m, rfl⟩ : ∃ m, F = m + 1 := ⟨F - 1, by omega⟩
    have hok := tn_ok ⟨back, by omega⟩
    have h1 := h.lo back (by omega)
    refine ⟨s, ?_⟩
    rw [show chL n back i = [tn back] by unfold chL; rw [if_neg (by omega), if_pos hb], sortF, if_neg (by rw [hok]; simp), if_neg (by rw [h1]; decide), if_pos h1]
  | d + 1, i, F, s, hd, hF, h => by
    obtain ⟨m, rfl⟩ : ∃ m, F = m + 1 := ⟨F - 1, by omega⟩
    have hi : i < n := by omega
    obtain ⟨s1, e1⟩ := chain_ring hn hb d (i + 1) m (openS s (tn i)) (by omega) (by omega) (h.open hi hn)
    have hok := tn_ok ⟨i, by omega⟩
    have h0 := h.hi i (Nat.le_refl _) hi
    have hg := gg_tn n back i hi hn
    refine ⟨s1, ?_⟩
    rw [show chL n back i = [tn i] by unfold chL; rw [if_pos hi], sortF, if_neg (by rw [hok]; simp), if_neg (by rw [h0]; decide), if_neg (by rw [h0]; decide), if_neg (by rw [h.re, h.ne]; omega), if_neg (by rw [hg]; simp), hg]
    show (match sortF (GG (rsR n back n)) (thF newT) m (chL n back (i + 1)) (openS s (tn i)) with | none => none | some (e, s1) => _) = _
    rw [e1]
    rfl
theorem chn0 (n : Nat) : Chn s00 n 0 := ⟨fun j hj => absurd hj (Nat.not_lt_zero _), fun _ _ _ => rfl, rfl, rfl⟩
theorem rings_u (n back : Nat) (hn : n ≤ 60) : ∃ s', sortF (GG (rsR n back n)) (thF newT) 1 [[117]] s00 = some (19, s') := by
  refine ⟨s00, ?_⟩
  rw [sortF, if_neg (by decide), if_neg (by decide), if_neg (by decide), if_neg (by decide), if_pos]
  rw [gg_u n back hn]
  exact ⟨rfl, rfl⟩
end Go.Proofs.YtjagnihkpgbjeaaDoor
