import Derived.Test.YtcjfpkfbdcmlbaaDoorO
namespace Go.Proofs.YtcjfpkfbdcmlbaaDoor
open Go.RowKit
set_option linter.unusedVariables false

theorem wpList_run_append_g {P : Program} (w : World) {ops : Array Oper} {rest : List Oper} {o : Oper} {a : Act} {Q : Exit → Act → World → Prop} (hw : Region.wanted o (yielded ops a.tmps) = true) (d s : Operand) (t t' : TypeId)
    (ho : o.op = .call { callee := .builtin .append, args := #[d, s], argTypes := #[t, t'] }) (v u : Value) (hd : a.eval d = v) (hs : a.eval s = u) {v' : Value} {w' : World}
    (hr : (Builtin.append_ #[t, t'] o.type #[v, u]).run P w = .ok v' w') (h : wpList P ops Q rest (a.put o.dst v') w') : wpList P ops Q (o :: rest) a w := by
  refine BigFrame.wpList_want hw fun K hK => ?_
  unfold Oper.wp
  simp [execOp, ho, resolve, invoke, builtin, hd, hs, hr, Result.andThen]
  exact hK _ _ h
theorem readX_fst {s : Bs} (h : (readX s).1 = 0) : s.length ≤ 16384 ∧ (0 : UInt8) ∉ s ∧ (readX s).2 = readL (phys s) := by
  unfold readX at h ⊢
  split at h
  · cases h
  · split at h
    · cases h
    · rename_i h1 h2
      rw [if_neg h1, if_neg h2]
      exact ⟨by omega, h2, rfl⟩
/-- A row of the call's own lies still where one alone is turned that lay before it. -/
theorem Ls.later {w0 w w' : World} {v : Value} {L : List LB} {S : Nat → Prop} (h : Ls w0 w v L) (ho : Only S w w') (hS : ∀ i, S i → i < w0.heap.size) : Sl w' v L := by
  obtain ⟨a, c, h1, h2⟩ := h.sl.form
  refine ⟨⟨a, c, h1, fun i hi => ?_⟩⟩
  obtain ⟨b, off, e1, e2, e3, e4⟩ := h2 i hi
  have hb : v.ownBlock = some b := by rw [h1, e1]; rfl
  have hbb := h.own.lt b hb
  have hk := ho.block b e2 (fun hs => by have := hS b hs; omega)
  refine ⟨b, off, e1, Nat.lt_of_lt_of_le e2 ho.size, ?_, ?_⟩
  · rw [← e3]; simp only [World.cell?, hk]
  · rw [← e4]; simp only [World.cell?, hk]
set_option maxRecDepth 100000 in
set_option maxHeartbeats 8000000 in
theorem parts_walk (a b : ByteArray) (W : World) (ha : a.size ≤ maxLen) (hb : b.size ≤ maxLen) (hmm : ∃ m, W.cell? ⟨0, 0, none⟩ = some (.int .i64 m)) : Calls Tryd.prog 4 #[.string a, .string b] W fun e w' => e = .returned (.bool true) ∧ Below W.heap.size W w' := by
  obtain ⟨m, hm⟩ := hmm
  have hsa : a.size ≤ 9223372036854775807 := by unfold maxLen at ha; omega
  have hsb : b.size ≤ 9223372036854775807 := by unfold maxLen at hb; omega
  have hkeep : ∀ w', Below W.heap.size W w' → w'.cell? ⟨0, 0, none⟩ = some (.int .i64 m) := fun w' hb => (hb.cell (p := ⟨0, 0, none⟩) (World.block_lt_of_cell? W _ hm)).trans hm
  have HK := Lib.hid hkeep
  have HA := Lib.hid (alive_any m W hm)
  have HLA : Hid (∀ w', Calls Tryd.prog 8 #[.string a] w' (ReadS w' a.data.toList)) := fun w' => lines_s a w' hsa
  have HLB : Hid (∀ w', Calls Tryd.prog 8 #[.string b] w' (ReadS w' b.data.toList)) := fun w' => lines_s b w' hsb
  obtain ⟨⟨ca, la⟩, hXa⟩ : ∃ p, readX a.data.toList = p := ⟨_, rfl⟩
  obtain ⟨⟨cb, lb⟩, hXb⟩ : ∃ p, readX b.data.toList = p := ⟨_, rfl⟩
  have HXA := Lib.hid hXa
  have HXB := Lib.hid hXb
  clear hm hkeep hXa hXb hsa hsb ha hb
  by_cases ha5 : 500 < a.size
  · have d1 : decide ((500 : Int) < (a.size : Int)) = true := decide_eq_true (by omega)
    go_enter Tryd.func4, Tryd.ntmps4
    go_wp2_with (first
      | (go_at_call 6; refine HA.out.mono ?_; rintro e w5 ⟨rfl, h5⟩; have HB := Lib.hid h5; clear h5; simp only [])
      | (go_at_call 8; refine (HLA.out _).mono ?_))
    rintro e w6 ⟨vx, X, cx, rfl, hx, he, hxl⟩
    rw [HXA.out] at he
    injection he with hc hl
    subst hc
    have HB6 := Lib.hid (HB.out.trans (hx.old.mono HB.out.size))
    have HXL := Lib.hid hl
    have HLX := Lib.hid hx
    clear hx hl
    simp only []
    go_wp2_with (go_at_call 8; refine (HLB.out _).mono ?_)
    rintro e w7 ⟨vy, Y, cy, rfl, hy, he, hyl⟩
    rw [HXB.out] at he
    injection he with hc hl
    subst hc
    have HB7 := Lib.hid (HB6.out.trans (hy.old.mono HB6.out.size))
    have HYL := Lib.hid hl
    have HLX7 := Lib.hid (HLX.out.below hy.old)
    have HLY := Lib.hid hy
    clear hy hl HLX
    simp only []
    go_wp2_with fail
    go_ret
    exact ⟨rfl, HB7.out⟩
  have d1 : decide ((500 : Int) < (a.size : Int)) = false := decide_eq_false (by omega)
  by_cases hb5 : 500 < b.size
  · have d2 : decide ((500 : Int) < (b.size : Int)) = true := decide_eq_true (by omega)
    go_enter Tryd.func4, Tryd.ntmps4
    go_wp2_with (first
      | (go_at_call 6; refine HA.out.mono ?_; rintro e w5 ⟨rfl, h5⟩; have HB := Lib.hid h5; clear h5; simp only [])
      | (go_at_call 8; refine (HLA.out _).mono ?_))
    rintro e w6 ⟨vx, X, cx, rfl, hx, he, hxl⟩
    rw [HXA.out] at he
    injection he with hc hl
    subst hc
    have HB6 := Lib.hid (HB.out.trans (hx.old.mono HB.out.size))
    have HXL := Lib.hid hl
    have HLX := Lib.hid hx
    clear hx hl
    simp only []
    go_wp2_with (go_at_call 8; refine (HLB.out _).mono ?_)
    rintro e w7 ⟨vy, Y, cy, rfl, hy, he, hyl⟩
    rw [HXB.out] at he
    injection he with hc hl
    subst hc
    have HB7 := Lib.hid (HB6.out.trans (hy.old.mono HB6.out.size))
    have HYL := Lib.hid hl
    have HLX7 := Lib.hid (HLX.out.below hy.old)
    have HLY := Lib.hid hy
    clear hy hl HLX
    simp only []
    go_wp2_with fail
    go_ret
    exact ⟨rfl, HB7.out⟩
  have d2 : decide ((500 : Int) < (b.size : Int)) = false := decide_eq_false (by omega)
  by_cases hca : ca = 0
  case neg =>
    have d3 : (ca != 0) = true := by simpa using hca
    clear hca
    go_enter Tryd.func4, Tryd.ntmps4
    go_wp2_with (first
      | (go_at_call 6; refine HA.out.mono ?_; rintro e w5 ⟨rfl, h5⟩; have HB := Lib.hid h5; clear h5; simp only [])
      | (go_at_call 8; refine (HLA.out _).mono ?_))
    rintro e w6 ⟨vx, X, cx, rfl, hx, he, hxl⟩
    rw [HXA.out] at he
    injection he with hc hl
    subst hc
    have HB6 := Lib.hid (HB.out.trans (hx.old.mono HB.out.size))
    have HXL := Lib.hid hl
    have HLX := Lib.hid hx
    clear hx hl
    simp only []
    go_wp2_with (go_at_call 8; refine (HLB.out _).mono ?_)
    rintro e w7 ⟨vy, Y, cy, rfl, hy, he, hyl⟩
    rw [HXB.out] at he
    injection he with hc hl
    subst hc
    have HB7 := Lib.hid (HB6.out.trans (hy.old.mono HB6.out.size))
    have HYL := Lib.hid hl
    have HLX7 := Lib.hid (HLX.out.below hy.old)
    have HLY := Lib.hid hy
    clear hy hl HLX
    simp only []
    go_wp2_with fail
    go_ret
    exact ⟨rfl, HB7.out⟩
  case pos =>
  subst hca
  by_cases hcb : cb = 0
  case neg =>
    have d4 : (cb != 0) = true := by simpa using hcb
    clear hcb
    go_enter Tryd.func4, Tryd.ntmps4
    go_wp2_with (first
      | (go_at_call 6; refine HA.out.mono ?_; rintro e w5 ⟨rfl, h5⟩; have HB := Lib.hid h5; clear h5; simp only [])
      | (go_at_call 8; refine (HLA.out _).mono ?_))
    rintro e w6 ⟨vx, X, cx, rfl, hx, he, hxl⟩
    rw [HXA.out] at he
    injection he with hc hl
    subst hc
    have HB6 := Lib.hid (HB.out.trans (hx.old.mono HB.out.size))
    have HXL := Lib.hid hl
    have HLX := Lib.hid hx
    clear hx hl
    simp only []
    go_wp2_with (go_at_call 8; refine (HLB.out _).mono ?_)
    rintro e w7 ⟨vy, Y, cy, rfl, hy, he, hyl⟩
    rw [HXB.out] at he
    injection he with hc hl
    subst hc
    have HB7 := Lib.hid (HB6.out.trans (hy.old.mono HB6.out.size))
    have HYL := Lib.hid hl
    have HLX7 := Lib.hid (HLX.out.below hy.old)
    have HLY := Lib.hid hy
    clear hy hl HLX
    simp only []
    go_wp2_with fail
    go_ret
    exact ⟨rfl, HB7.out⟩
  case pos =>
  subst hcb
  have HE1 : Hid (∀ w', Calls Tryd.prog 14 #[.string a, .string ⟨#[92]⟩] w' fun e w2 => e = .returned (.bool (Lib.hasSuffix a.data.toList [92])) ∧ w2 = w') := fun w' => Ends_any a ⟨#[92]⟩ w' (by omega) _ rfl
  have HE2 : Hid (∀ w', Calls Tryd.prog 14 #[.string a, .string ⟨#[92, 10]⟩] w' fun e w2 => e = .returned (.bool (Lib.hasSuffix a.data.toList [92, 10])) ∧ w2 = w') := fun w' => Ends_any a ⟨#[92, 10]⟩ w' (by omega) _ rfl
  cases hs1 : Lib.hasSuffix a.data.toList [92] with
  | true =>
    rw [hs1] at HE1
    clear hs1
    go_enter Tryd.func4, Tryd.ntmps4
    go_wp2_with (first
      | (go_at_call 6; refine HA.out.mono ?_; rintro e w5 ⟨rfl, h5⟩; have HB := Lib.hid h5; clear h5; simp only [])
      | (go_at_call 8; refine (HLA.out _).mono ?_))
    rintro e w6 ⟨vx, X, cx, rfl, hx, he, hxl⟩
    rw [HXA.out] at he
    injection he with hc hl
    subst hc
    have HB6 := Lib.hid (HB.out.trans (hx.old.mono HB.out.size))
    have HXL := Lib.hid hl
    have HLX := Lib.hid hx
    clear hx hl
    simp only []
    go_wp2_with (go_at_call 8; refine (HLB.out _).mono ?_)
    rintro e w7 ⟨vy, Y, cy, rfl, hy, he, hyl⟩
    rw [HXB.out] at he
    injection he with hc hl
    subst hc
    have HB7 := Lib.hid (HB6.out.trans (hy.old.mono HB6.out.size))
    have HYL := Lib.hid hl
    have HLX7 := Lib.hid (HLX.out.below hy.old)
    have HLY := Lib.hid hy
    clear hy hl HLX
    simp only []
    go_wp2_with (go_at_call 14; with_reducible refine (HE1.out _).mono ?_; rintro e w8 ⟨rfl, h8⟩; obtain rfl := h8.symm; simp only [])
    go_ret
    exact ⟨rfl, HB7.out⟩
  | false =>
    rw [hs1] at HE1
    cases hs2 : Lib.hasSuffix a.data.toList [92, 10] with
    | true =>
      rw [hs2] at HE2
      clear hs1 hs2
      go_enter Tryd.func4, Tryd.ntmps4
      go_wp2_with (first
        | (go_at_call 6; refine HA.out.mono ?_; rintro e w5 ⟨rfl, h5⟩; have HB := Lib.hid h5; clear h5; simp only [])
        | (go_at_call 8; refine (HLA.out _).mono ?_))
      rintro e w6 ⟨vx, X, cx, rfl, hx, he, hxl⟩
      rw [HXA.out] at he
      injection he with hc hl
      subst hc
      have HB6 := Lib.hid (HB.out.trans (hx.old.mono HB.out.size))
      have HXL := Lib.hid hl
      have HLX := Lib.hid hx
      clear hx hl
      simp only []
      go_wp2_with (go_at_call 8; refine (HLB.out _).mono ?_)
      rintro e w7 ⟨vy, Y, cy, rfl, hy, he, hyl⟩
      rw [HXB.out] at he
      injection he with hc hl
      subst hc
      have HB7 := Lib.hid (HB6.out.trans (hy.old.mono HB6.out.size))
      have HYL := Lib.hid hl
      have HLX7 := Lib.hid (HLX.out.below hy.old)
      have HLY := Lib.hid hy
      clear hy hl HLX
      simp only []
      go_wp2_with (first
        | (go_at_call 14; with_reducible refine (HE1.out _).mono ?_; rintro e w8 ⟨rfl, h8⟩; obtain rfl := h8.symm; simp only [])
        | (go_at_call 14; with_reducible refine (HE2.out _).mono ?_; rintro e w8 ⟨rfl, h8⟩; obtain rfl := h8.symm; simp only []))
      go_ret
      exact ⟨rfl, HB7.out⟩
    | false =>
      rw [hs2] at HE2
      have hcs : ∀ c : UInt8, (⟨#[c]⟩ : ByteArray).data.toList = [c] := fun _ => rfl
      obtain ⟨U, hU⟩ : ∃ U : ByteArray, a ++ (⟨#[10]⟩ : ByteArray) ++ b = U := ⟨_, rfl⟩
      have hUd : U.data.toList = a.data.toList ++ 10 :: b.data.toList := by rw [← hU]; simp
      have hUs : U.size = a.size + 1 + b.size := by rw [← hU, ByteArray.size_append, ByteArray.size_append]; rfl
      have hok : readX U.data.toList = (0, la ++ lb) := by
        have e1 := readX_fst (s := a.data.toList) (by rw [HXA.out])
        have e2 := readX_fst (s := b.data.toList) (by rw [HXB.out])
        rw [HXA.out] at e1
        rw [HXB.out] at e2
        have hl : U.data.toList.length ≤ 16384 := by rw [dl]; omega
        have hz : (0 : UInt8) ∉ U.data.toList := by
          rw [hUd, List.mem_append, List.mem_cons]
          rintro (h | h | h)
          · exact e1.2.1 h
          · exact absurd h (by decide)
          · exact e2.2.1 h
        rw [readX_ok hl hz, hUd, parts_val _ _ hs1 hs2]
        have g1 : la = readL (phys a.data.toList) := e1.2.2
        have g2 : lb = readL (phys b.data.toList) := e2.2.2
        rw [g1, g2]
      have HOK := Lib.hid hok
      have HRD : Hid (∀ w', Below W.heap.size W w' → Calls Tryd.prog 7 #[.string U] w' (ReadS w' U.data.toList)) := fun w' hb => read_s U m w' (by omega) (HK.out w' hb)
      have hz1 : ¬ (9223372036854775807 < a.size + 1) := by omega
      have hz2 : ¬ (9223372036854775807 < a.size + 1 + b.size) := by omega
      have HN := Lib.hid (fun w => num_any 0 w)
      clear hs1 hs2 hcs hUd hUs hok
      go_enter Tryd.func4, Tryd.ntmps4
      go_wp2_with (first
        | (go_at_call 6; refine HA.out.mono ?_; rintro e w5 ⟨rfl, h5⟩; have HB := Lib.hid h5; clear h5; simp only [])
        | (go_at_call 8; refine (HLA.out _).mono ?_))
      rintro e w6 ⟨vx, X, cx, rfl, hx, he, hxl⟩
      rw [HXA.out] at he
      injection he with hc hl
      subst hc
      have HB6 := Lib.hid (HB.out.trans (hx.old.mono HB.out.size))
      have HXL := Lib.hid hl
      have HLX := Lib.hid hx
      clear hx hl
      simp only []
      go_wp2_with (go_at_call 8; refine (HLB.out _).mono ?_)
      rintro e w7 ⟨vy, Y, cy, rfl, hy, he, hyl⟩
      rw [HXB.out] at he
      injection he with hc hl
      subst hc
      have HB7 := Lib.hid (HB6.out.trans (hy.old.mono HB6.out.size))
      have HYL := Lib.hid hl
      have HLX7 := Lib.hid (HLX.out.below hy.old)
      have HLY := Lib.hid hy
      clear hy hl HLX
      simp only []
      go_wp2_with (go_at_call 14; with_reducible refine (HE1.out _).mono ?_; rintro e w8 ⟨rfl, h8⟩; obtain rfl := h8.symm; simp only [])
      go_wp2_with (go_at_call 14; with_reducible refine (HE2.out _).mono ?_; rintro e w8 ⟨rfl, h8⟩; obtain rfl := h8.symm; simp only [])
      go_wp2_with (go_at_call 7; refine (HRD.out _ HB7.out).mono ?_)
      rintro e w8 ⟨v, L, c, rfl, hL, he, hll⟩
      rw [HOK.out] at he
      injection he with hc hl
      subst hc
      have HB8 := Lib.hid (HB7.out.trans (hL.old.mono HB7.out.size))
      have hLL : L = X ++ Y := ln_inj (by rw [hl, List.map_append, HXL.out, HYL.out])
      subst hLL
      have hlx := HLX7.out.below hL.old
      have hly := HLY.out.below hL.old
      obtain ⟨v8, w9, r9, h9, ho9⟩ := hlx.cat hly (by omega) (by omega)
      have hsl := hL.later ho9 (fun i hi => (HLX7.out.own.lt i hi).2)
      have HB9 : Hid (Below W.heap.size W w9) := HB8.out.trans (ho9.below (fun k hk => by have := (hlx.own.lt k hk).1; have := HB.out.size; omega) HB8.out.size)
      have HSL : Hid (Calls Tryd.prog 10 #[v, v8] w9 fun e w' => e = .returned (.bool true) ∧ ∃ n, w' = w9.drewN n) := SameLines_any v v8 (X ++ Y) w9 (by rw [List.length_append]; omega) hsl h9.sl
      clear hL hl hlx hly h9 ho9 hsl
      simp only []
      go_wp2_with (first
        | (go_at_call 9; refine (HN.out _).mono ?_; rintro e w10 ⟨rfl, h10⟩; obtain rfl := h10.symm; simp only [])
        | (at_builtin; refine wpList_run_append_g _ rfl _ _ 23 23 rfl _ _ rfl rfl r9 ?_)
        | (go_at_call 10; refine HSL.out.mono ?_; rintro e w11 ⟨rfl, n11, hn11⟩; have HB11 : Hid (Below W.heap.size W w11) := (by rw [hn11]; exact HB9.out.trans ((drew_below _ _).mono HB9.out.size)); clear hn11; simp only []))
      go_ret
      exact ⟨rfl, HB11.out⟩
end Go.Proofs.YtcjfpkfbdcmlbaaDoor
