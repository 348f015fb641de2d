import Derived.Test.YtcjfpkfbdcmlbaaDoorG
namespace Go.Proofs.YtcjfpkfbdcmlbaaDoor
open Go.RowKit
set_option linter.unusedVariables false

/-- Lines, to be read behind v. -/
structure Sl (w : World) (v : Value) (L : List LB) : Prop where
  form : ∃ a c, v = .slice a L.length c ∧ ∀ i (h : i < L.length), ∃ b off, a = some ⟨b, off, none⟩ ∧ b < w.heap.size ∧ w.cell? ⟨b, off + i * 2, none⟩ = some (.bool L[i].r) ∧ w.cell? ⟨b, off + i * 2 + 1, none⟩ = some (.string L[i].t)
theorem Sl.below {w w' : World} {v : Value} {L : List LB} (h : Sl w v L) (hb : Below w.heap.size w w') : Sl w' v L := by
  obtain ⟨⟨a, c, h1, h2⟩⟩ := h
  refine ⟨⟨a, c, h1, fun i hi => ?_⟩⟩
  obtain ⟨b, off, e1, e2, e3, e4⟩ := h2 i hi
  exact ⟨b, off, e1, Nat.lt_of_lt_of_le e2 hb.size, (hb.cell (p := ⟨b, _, none⟩) e2).trans e3, (hb.cell (p := ⟨b, _, none⟩) e2).trans e4⟩
theorem Ls.sl {w0 w : World} {v : Value} {L : List LB} (h : Ls w0 w v L) : Sl w v L := by
  obtain ⟨a, c, h1, h2⟩ := h.form
  refine ⟨⟨a, c, h1, fun i hi => ?_⟩⟩
  obtain ⟨b, e1, e2, e3, e4⟩ := h2 i hi
  exact ⟨b, 0, e1, e2, by rw [Nat.zero_add]; exact e3, by rw [Nat.zero_add]; exact e4⟩
theorem add2 (b off k : Nat) : (⟨b, off, none⟩ : Addr).add (k * 2) = ⟨b, off + k * 2, none⟩ := addn _ _ _
theorem ln_inj {L M : List LB} (h : L.map LB.ln = M.map LB.ln) : L = M := by
  refine List.map_inj_right (f := LB.ln) ?_ |>.1 h
  intro x y e
  obtain ⟨r, t⟩ := x
  obtain ⟨r', t'⟩ := y
  unfold LB.ln at e
  injection e with e1 e2
  have e1 : r = r' := e1
  have e2 : t = t' := ba_ext e2
  rw [e1, e2]
theorem Txt.below' {w w' : World} {v : Value} {l : List ByteArray} (h : Txt w v l) (hb : Below w.heap.size w w') : Txt w' v l := h.below hb
set_option maxRecDepth 100000 in
set_option maxHeartbeats 8000000 in
theorem SameLines_any (u v : Value) (L : List LB) (w : World) (hL : L.length ≤ 100000) (h1 : Sl w u L) (h2 : Sl w v L) :
    Calls Tryd.prog 10 #[u, v] w fun e w' => e = .returned (.bool true) ∧ ∃ n, w' = w.drewN n := by
  obtain ⟨a1, c1, hu, k1⟩ := h1.form
  obtain ⟨a2, c2, hv, k2⟩ := h2.form
  subst hu
  subst hv
  have H1 := Lib.hid k1
  have H2 := Lib.hid k2
  have hlI : (L.length : Int) ≤ 100000 := by omega
  clear h1 h2 k1 k2
  go_enter Tryd.func10, Tryd.ntmps10
  go_wp2_with fail
  go_loopw [5] (fun i wx => ∃ k m : Nat, k ≤ L.length ∧ i = .int .i64 k ∧ wx = w.drewN m) (fun i _ => L.length - (intOf i).toNat)
  case atStart => exact ⟨0, 0, by omega, rfl, (World.drewN_zero _).symm⟩
  case round =>
    obtain ⟨k, m, hk, rfl, rfl⟩ := hrel
    by_cases hlt : k < L.length
    · have hltI : (k : Int) < (L.length : Int) := by omega
      have hltd : decide ((k : Int) < (L.length : Int)) = true := decide_eq_true hltI
      have hk0 : (0 : Int) ≤ (k : Int) := by omega
      obtain ⟨b, off, rfl, _, q0, q1⟩ := H1.out k hlt
      obtain ⟨b', off', rfl, _, q0', q1'⟩ := H2.out k hlt
      obtain ⟨kd, hkd⟩ : ∃ kd, L[k].r = kd := ⟨_, rfl⟩
      obtain ⟨t, ht⟩ : ∃ t, L[k].t = t := ⟨_, rfl⟩
      rw [hkd] at q0 q0'
      rw [ht] at q1 q1'
      clear hkd ht
      have ad := add2 b off k
      have ad' := add2 b' off' k
      go_wp2_with fail
      go_quiet (fail)
      go_wp2_with fail
      go_roundw
      case measure => simp [intOf]; omega
      case rel => exact ⟨k + 1, _, by omega, by go_num, rfl⟩
    · obtain rfl : k = L.length := by omega
      have hltd : decide ((L.length : Int) < (L.length : Int)) = false := decide_eq_false (by omega)
      go_wp2_with fail
      go_ret
      exact ⟨rfl, _, rfl⟩
set_option maxRecDepth 100000 in
set_option maxHeartbeats 8000000 in
theorem SameStrings_any (u v : Value) (L : List ByteArray) (w : World) (hL : L.length ≤ 100000) (h1 : Txt w u L) (h2 : Txt w v L) :
    Calls Tryd.prog 11 #[u, v] w fun e w' => e = .returned (.bool true) ∧ ∃ n, w' = w.drewN n := by
  obtain ⟨a1, c1, hu, k1⟩ := h1.form
  obtain ⟨a2, c2, hv, k2⟩ := h2.form
  subst hu
  subst hv
  have H1 := Lib.hid k1
  have H2 := Lib.hid k2
  have hlI : (L.length : Int) ≤ 100000 := by omega
  clear h1 h2 k1 k2
  go_enter Tryd.func11, Tryd.ntmps11
  go_wp2_with fail
  go_loopw [5] (fun i wx => ∃ k m : Nat, k ≤ L.length ∧ i = .int .i64 k ∧ wx = w.drewN m) (fun i _ => L.length - (intOf i).toNat)
  case atStart => exact ⟨0, 0, by omega, rfl, (World.drewN_zero _).symm⟩
  case round =>
    obtain ⟨k, m, hk, rfl, rfl⟩ := hrel
    by_cases hlt : k < L.length
    · have hltI : (k : Int) < (L.length : Int) := by omega
      have hltd : decide ((k : Int) < (L.length : Int)) = true := decide_eq_true hltI
      have hk0 : (0 : Int) ≤ (k : Int) := by omega
      obtain ⟨b, off, rfl, _, q0⟩ := H1.out k hlt
      obtain ⟨b', off', rfl, _, q0'⟩ := H2.out k hlt
      obtain ⟨t, ht⟩ : ∃ t, L[k] = t := ⟨_, rfl⟩
      rw [ht] at q0 q0'
      clear ht
      have ad := addn b off k
      have ad' := addn b' off' k
      go_wp2_with fail
      go_quiet (fail)
      go_wp2_with fail
      go_roundw
      case measure => simp [intOf]; omega
      case rel => exact ⟨k + 1, _, by omega, by go_num, rfl⟩
    · obtain rfl : k = L.length := by omega
      have hltd : decide ((L.length : Int) < (L.length : Int)) = false := decide_eq_false (by omega)
      go_wp2_with fail
      go_ret
      exact ⟨rfl, _, rfl⟩
end Go.Proofs.YtcjfpkfbdcmlbaaDoor
