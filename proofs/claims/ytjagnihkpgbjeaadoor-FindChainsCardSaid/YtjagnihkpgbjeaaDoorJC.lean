import Derived.Test.YtjagnihkpgbjeaaDoorJB
namespace Go.Proofs.YtjagnihkpgbjeaaDoor
open Go.RowKit Go.Maps Go.ChangeMaps
set_option linter.unusedVariables false
/-! A pattern rule with one target and one need that matches. -/
structure PatS (w w' : World) (b4 b6 : Nat) (nv rcv : Value) (sv : Value) (ns : List Bs) : Prop where
  p : w'.heap[b6]? = some (.cells [nv, rcv, sv, .bool false].toArray 50 (0, 0))
  r : w'.heap[b4]? = some (.cells [.slice none 0 0, .slice none 0 0, .string ⟨#[]⟩, .bool false].toArray 50 (0, 0))
  n : SlS w' nv ns
  old : Below w.heap.size w w'
  ne : b4 ≠ b6
  l4 : w.heap.size ≤ b4
  l6 : w.heap.size ≤ b6
  nb : ∀ g, nv.ownBlock = some g → g ≠ b4 ∧ g ≠ b6 ∧ w.heap.size ≤ g
theorem PatS.below {w w' w2 : World} {b4 b6 : Nat} {nv rcv sv : Value} {ns : List Bs} (h : PatS w w' b4 b6 nv rcv sv ns) (hb : Below w'.heap.size w' w2) : PatS w w2 b4 b6 nv rcv sv ns :=
  ⟨(hb.block _ (Array.getElem?_eq_some_iff.1 h.p).1).trans h.p, (hb.block _ (Array.getElem?_eq_some_iff.1 h.r).1).trans h.r, h.n.below hb, h.old.trans (hb.mono h.old.size), h.ne, h.l4, h.l6, h.nb⟩
theorem PatS.put {w w' : World} {b4 b6 : Nat} {nv rcv sv v' : Value} {ns ns' : List Bs} (h : PatS w w' b4 b6 nv rcv sv ns) (hv : SlS w' v' ns') (hn : ∀ g, v'.ownBlock = some g → g ≠ b4 ∧ g ≠ b6 ∧ w.heap.size ≤ g) : PatS w (w'.setCell ⟨b6, 0, none⟩ v') b4 b6 v' rcv sv ns' :=
  ⟨set_of h.p 0 _, by rw [Below.heap_setCell _ _ _ _ (by show b4 ≠ b6; exact h.ne)]; exact h.r, hv.only2 ((Only.refl (fun j => j = b6) w').set (.inl rfl) 0 v') (fun g _ hg e => (hn g hg).2.1 e), below_set h.old h.l6 _ _, h.ne, h.l4, h.l6, hn⟩
theorem PatS.fin {w w' : World} {b4 b6 : Nat} {nv rcv sv : Value} {ns : List Bs} (h : PatS w w' b4 b6 nv rcv sv ns) (u0 u1 u2 u3 : Value) :
    SlS ((((w'.setCell ⟨b4, 0, none⟩ u0).setCell ⟨b4, 1, none⟩ u1).setCell ⟨b4, 2, none⟩ u2).setCell ⟨b4, 3, none⟩ u3) nv ns ∧ Below w.heap.size w ((((w'.setCell ⟨b4, 0, none⟩ u0).setCell ⟨b4, 1, none⟩ u1).setCell ⟨b4, 2, none⟩ u2).setCell ⟨b4, 3, none⟩ u3) :=
  ⟨h.n.only2 ((((Only.refl (fun j => j = b4) w').set (.inl rfl) 0 u0).set (.inl rfl) 1 u1).set (.inl rfl) 2 u2 |>.set (.inl rfl) 3 u3) (fun g _ hg e => (h.nb g hg).1 e), below_set (below_set (below_set (below_set h.old h.l4 _ _) h.l4 _ _) h.l4 _ _) h.l4 _ _⟩
set_option maxRecDepth 100000 in
set_option maxHeartbeats 4000000 in
theorem pat_any {w : World} {B N f : Nat} {c : Cn} {T : Tr} {F : Nat → Prop} (hF : Fs w B N f c T F) (hm : Hm w) (sb : Nat) (hlt : sb < w.heap.size) (st back nb rc : Bs) (rcl : List Bs) (tv nv rcv ms rv : Value) (rs : List Rl)
    (q0 : w.cell? ⟨sb, 0, none⟩ = some ms) (q1 : w.cell? ⟨sb, 1, none⟩ = some rv) (q2 : w.cell? ⟨sb, 2, none⟩ = some (.pointer (some ⟨f, 0, none⟩))) (q3 : w.cell? ⟨sb, 3, none⟩ = some (.string ⟨#[47]⟩)) (q4 : w.cell? ⟨sb, 4, none⟩ = some (.string (nameB (st ++ back))))
    (h3 : Rl3 w tv nv rcv ⟨[37 :: back], [37 :: nb], rcl⟩) (hst : st ≠ []) (hl1 : st.length + back.length ≤ 10000) (hl2 : st.length + nb.length ≤ 10000) (hneed : Nm (st ++ nb)) (hv : RsV w rv rs) (hl : rs.length ≤ 1000) (hms : ∃ a n c, ms = .slice a n c) (b : Bool) (hb : (decide (kdF T (st ++ nb) ≠ 0) || knownF rs (st ++ nb)) = b) :
    Calls Tryd.prog 80 #[.pointer (some ⟨sb, 0, none⟩), .agg #[tv, nv, rcv]] w fun e w' => ∃ nv', e = .returned (.tuple #[.agg #[nv', rcv, .string (nameB st), .bool false], .bool b]) ∧ SlS w' nv' (if b then [st ++ nb] else []) ∧ Below w.heap.size w w' ∧ ∀ g, nv'.ownBlock = some g → w.heap.size ≤ g := by
  obtain ⟨ta, tc, htv⟩ := h3.t.len
  obtain ⟨na, nc, hnv⟩ := h3.n.len
  obtain ⟨ra, rcc, hrv⟩ := h3.k.len
  obtain ⟨ma, mn, mc, hms⟩ := hms
  obtain ⟨va, vc, hvv⟩ := hv.len
  have htv : tv = .slice ta 1 tc := htv
  have hnv : nv = .slice na 1 nc := hnv
  have hrv : rcv = .slice ra rcl.length rcc := hrv
  subst htv; subst hnv; subst hrv; subst hms; subst hvv
  obtain ⟨gt, ot, rfl, _, hct⟩ := strs_sl h3.t (by simp)
  obtain ⟨gn, on, rfl, _, hcn⟩ := strs_sl h3.n (by simp)
  have t0 : w.cell? ⟨gt, ot, none⟩ = some (.string (nameB (37 :: back))) := hct 0 (by simp)
  have n0 : w.cell? ⟨gn, on, none⟩ = some (.string (nameB (37 :: nb))) := hcn 0 (by simp)
  have HM := Lib.hid hm
  obtain ⟨W2, hW2⟩ : ∃ W2, ((w.alloc (.cells #[.slice (some ⟨gt, ot, none⟩) 1 tc, .slice (some ⟨gn, on, none⟩) 1 nc, .slice ra rcl.length rcc] 48)).alloc (.cells #[.slice none 0 0, .slice none 0 0, .string ⟨#[]⟩, .bool false] 50)).alloc (.cells #[.slice none 0 0, .slice ra rcl.length rcc, .string ⟨#[]⟩, .bool false] 50) = W2 := ⟨_, rfl⟩
  have hB2 : Below w.heap.size w W2 := hW2 ▸ below_trans (below_alloc _ _) (below_trans (below_alloc _ _) (below_alloc _ _))
  have hs2 : W2.heap.size = w.heap.size + 1 + 1 + 1 := by rw [← hW2, size_alloc, size_alloc, size_alloc]
  have z2 : ((w.alloc (.cells #[.slice (some ⟨gt, ot, none⟩) 1 tc, .slice (some ⟨gn, on, none⟩) 1 nc, .slice ra rcl.length rcc] 48)).alloc (.cells #[.slice none 0 0, .slice none 0 0, .string ⟨#[]⟩, .bool false] 50)).cell? ⟨w.heap.size, 2, none⟩ = some (.slice ra rcl.length rcc) := by
    rw [World.cell?, Below.heap_alloc _ _ _ (by rw [size_alloc]; exact Nat.lt_succ_self _), heap_alloc_new]; rfl
  have y3 : W2.heap[w.heap.size]? = some (.cells [.slice (some ⟨gt, ot, none⟩) 1 tc, .slice (some ⟨gn, on, none⟩) 1 nc, .slice ra rcl.length rcc].toArray 48 (0, 0)) := by
    rw [← hW2, Below.heap_alloc _ _ _ (by rw [size_alloc, size_alloc]; omega), Below.heap_alloc _ _ _ (by rw [size_alloc]; omega)]; exact heap_alloc_new w _
  have y4 : W2.heap[w.heap.size + 1]? = some (.cells [.slice none 0 0, .slice none 0 0, .string ⟨#[]⟩, .bool false].toArray 50 (0, 0)) := by
    rw [← hW2, Below.heap_alloc _ _ _ (by rw [size_alloc, size_alloc]; omega)]
    have := heap_alloc_new (w.alloc (.cells #[.slice (some ⟨gt, ot, none⟩) 1 tc, .slice (some ⟨gn, on, none⟩) 1 nc, .slice ra rcl.length rcc] 48)) (.cells #[.slice none 0 0, .slice none 0 0, .string ⟨#[]⟩, .bool false] 50)
    rw [size_alloc] at this; exact this
  have y6 : W2.heap[w.heap.size + 1 + 1]? = some (.cells [.slice none 0 0, .slice ra rcl.length rcc, .string ⟨#[]⟩, .bool false].toArray 50 (0, 0)) := by
    rw [← hW2]
    have := heap_alloc_new ((w.alloc (.cells #[.slice (some ⟨gt, ot, none⟩) 1 tc, .slice (some ⟨gn, on, none⟩) 1 nc, .slice ra rcl.length rcc] 48)).alloc (.cells #[.slice none 0 0, .slice none 0 0, .string ⟨#[]⟩, .bool false] 50)) (.cells #[.slice none 0 0, .slice ra rcl.length rcc, .string ⟨#[]⟩, .bool false] 50)
    rw [size_alloc, size_alloc] at this; exact this
  have zx0 : (((w.alloc (.cells #[.slice (some ⟨gt, ot, none⟩) 1 tc, .slice (some ⟨gn, on, none⟩) 1 nc, .slice ra rcl.length rcc] 48)).alloc (.cells #[.slice none 0 0, .slice none 0 0, .string ⟨#[]⟩, .bool false] 50)).alloc (.cells #[.slice none 0 0, .slice ra rcl.length rcc, .string ⟨#[]⟩, .bool false] 50)).cell? ⟨w.heap.size, 0, none⟩ = some (.slice (some ⟨gt, ot, none⟩) 1 tc) := by rw [hW2]; exact cell_of y3 0
  have HW2 := Lib.hid hW2
  have HB2 := Lib.hid hB2
  have HS2 := Lib.hid hs2
  have HY3 := Lib.hid y3
  have HY4 := Lib.hid y4
  have HY6 := Lib.hid y6
  clear hct hcn hm h3 hW2 hB2 hs2 y3 y4 y6
  go_enter Tryd.func80, Tryd.ntmps80
  go_wp2_with fail
  refine wp_scope_straight ?_
  go_wp2_with fail
  refine wp_label ?_
  go_wp2_with fail
  rw [HW2.out]
  obtain ⟨b6, hb6⟩ : ∃ b6, w.heap.size + 1 + 1 = b6 := ⟨_, rfl⟩
  obtain ⟨b4, hb4⟩ : ∃ b4, w.heap.size + 1 = b4 := ⟨_, rfl⟩
  obtain ⟨b3, hb3⟩ : ∃ b3, w.heap.size = b3 := ⟨_, rfl⟩
  rw [hb6] at HY6
  rw [hb4] at HY4
  have hne43 : b3 ≠ b4 := by omega
  have hne46 : b4 ≠ b6 := by omega
  have hne36 : b3 ≠ b6 := by omega
  have h64 : b6 ≠ b4 := by omega
  have h63 : b6 ≠ b3 := by omega
  have hlb : b3 ≤ b4 ∧ b3 ≤ b6 := by omega
  simp only [hb6]
  simp only [hb4]
  simp only [hb3]
  rw [hb3] at HY3
  clear zx0 z2
  go_loopw [19] (fun i wr => i = .int .i64 0 ∧ wr = W2) (fun i _ => 0)
  case atStart => exact ⟨rfl, rfl⟩
  case round =>
    obtain ⟨rfl, rfl⟩ := hrel
    have p4 := (HB2.out.cell (p := ⟨sb, 4, none⟩) hlt).trans q4
    have pt := (HB2.out.cell (p := ⟨gt, ot, none⟩) (World.block_lt_of_cell? _ _ t0)).trans t0
    have HMT := Lib.hid (match_pt _ (HM.out.below HB2.out) st back hst hl1)
    obtain ⟨TG, hTG⟩ : ∃ TG, nameB (st ++ back) = TG := ⟨_, rfl⟩
    obtain ⟨PT, hPT⟩ : ∃ PT, nameB (37 :: back) = PT := ⟨_, rfl⟩
    obtain ⟨ST, hST⟩ : ∃ ST, nameB st = ST := ⟨_, rfl⟩
    rw [hTG] at p4 HMT
    rw [hPT] at pt HMT
    rw [hST] at HMT
    have HST := Lib.hid hST
    clear hTG hPT hST
    go_wp2_with (go_at_call 105; refine HMT.out.mono ?_; rintro e w3 ⟨rfl, h3⟩; have H3 := Lib.hid h3; obtain ⟨z0, z1, z2, z3, y0, y1, y2, y3⟩ := box50 ((h3.block _ (Array.getElem?_eq_some_iff.1 HY6.out).1).trans HY6.out); have x1 : w3.cell? ⟨b3, 1, none⟩ = some (.slice (some ⟨gn, on, none⟩) 1 nc) := cell_of ((h3.block _ (Array.getElem?_eq_some_iff.1 HY3.out).1).trans HY3.out) 1; clear h3; simp only [])
    have e6 := (H3.out.block _ (Array.getElem?_eq_some_iff.1 HY6.out).1).trans HY6.out
    have e4 := (H3.out.block _ (Array.getElem?_eq_some_iff.1 HY4.out).1).trans HY4.out
    obtain ⟨WL, hWL⟩ : ∃ WL, w3.setCell ⟨b6, 2, none⟩ (.string ST) = WL := ⟨_, rfl⟩
    have HPS : Hid (PatS w WL b4 b6 (.slice none 0 0) (.slice ra rcl.length rcc) (.string ST) []) := by
      rw [← hWL]
      refine ⟨set_of e6 2 _, ?_, .inl ⟨rfl, rfl⟩, below_set (below_trans HB2.out H3.out) (by omega) _ _, hne46, by omega, by omega, fun g hg => by cases hg⟩
      rw [Below.heap_setCell _ _ _ _ (by show b4 ≠ b6; exact hne46)]; exact e4
    rw [hWL]
    clear e6 e4 z0 z1 z2 z3 y0 y1 y2 y3 x1 p4 pt HMT hWL
    go_loopw [41] (fun i wr => (i = .int .i64 0 ∧ Hid (PatS w wr b4 b6 (.slice none 0 0) (.slice ra rcl.length rcc) (.string ST) [])) ∨ (i = .int .i64 1 ∧ Hid (∃ a c', PatS w wr b4 b6 (.slice a 1 c') (.slice ra rcl.length rcc) (.string ST) [st ++ nb]) ∧ Hid (b = true))) (fun i _ => 1 - (intOf i).toNat)
    case atStart => exact .inl ⟨rfl, HPS.out⟩
    case round =>
      clear HPS
      rcases hrel with ⟨rfl, HX⟩ | ⟨rfl, HX, HBT⟩
      · have pn := (HX.out.old.cell (p := ⟨gn, on, none⟩) (World.block_lt_of_cell? _ _ n0)).trans n0
        have HFL := Lib.hid (fun (w' : World) (hb' : Below w.heap.size w w') => fill_pt w' (HM.out.below hb') st nb hl2)
        obtain ⟨kk, hkk⟩ : ∃ kk, kdF T (st ++ nb) = kk := ⟨_, rfl⟩
        have HKD := Lib.hid (fun (w' : World) (hb' : Below w.heap.size w w') => kindG_any (hF.below hb') hneed kk hkk sb (Nat.lt_of_lt_of_le hlt hb'.size) ((hb'.cell (p := ⟨sb, 2, none⟩) hlt).trans q2) ((hb'.cell (p := ⟨sb, 3, none⟩) hlt).trans q3))
        have HC0 := Lib.hid (fun (w' : World) (hb' : Below w.heap.size w w') => (hb'.cell (p := ⟨sb, 0, none⟩) hlt).trans q0)
        have HC1 := Lib.hid (fun (w' : World) (hb' : Below w.heap.size w w') => (hb'.cell (p := ⟨sb, 1, none⟩) hlt).trans q1)
        obtain ⟨kn, hkn⟩ : ∃ kn, knownF rs (st ++ nb) = kn := ⟨_, rfl⟩
        have HKN := Lib.hid (fun (w' : World) (hb' : Below w.heap.size w w') => Known_any (.slice ma mn mc) (.slice va rs.length vc) rs (nameB (st ++ nb)) w' (hv.below hb') hl kn (by rw [nameB_list]; exact hkn))
        rw [hkk, hkn] at hb
        have HBB := Lib.hid hb
        obtain ⟨z0, z1, z2, z3, y0, y1, y2, y3⟩ := box50 HX.out.p
        obtain ⟨PN, hPN⟩ : ∃ PN, nameB (37 :: nb) = PN := ⟨_, rfl⟩
        obtain ⟨ND, hND⟩ : ∃ ND, nameB (st ++ nb) = ND := ⟨_, rfl⟩
        rw [hPN] at pn HFL
        rw [hND] at HFL HKD HKN
        rw [HST.out] at HFL
        have HND := Lib.hid hND
        clear hPN hND hkk hkn hb q0 q1 q2 q3
        have HW0 : Hid (Below wr.heap.size wr wr) := Below.refl _ _
        by_cases hk0 : kk = 0
        · subst hk0
          cases kn with
          | true =>
            have HBT : Hid (b = true) := HBB.out.symm
            go_wp2_with (first
              | (go_at_call 106; ((with_reducible refine (HFL.out _ HX.out.old).mono ?_)); rintro e w5 ⟨rfl, h5⟩; have H5 := Lib.hid (HX.out.below h5); clear h5; simp only [])
              | (go_at_call 107; ((with_reducible refine (HKD.out _ H5.out.old).mono ?_)); rintro e w6 ⟨rfl, h6⟩; have H6 := Lib.hid (H5.out.below h6); clear h6; have p0 := HC0.out _ H6.out.old; have p1 := HC1.out _ H6.out.old; simp only [])
              | (go_at_call 87; ((with_reducible refine (HKN.out _ H6.out.old).mono ?_)); rintro e w7 ⟨rfl, h7⟩; have H7 := Lib.hid (H6.out.below h7); clear h7; obtain ⟨u0, u1, u2, u3, v0, v1, v2, v3⟩ := box50 H7.out.p; obtain ⟨v', w8, hrun, hro⟩ := push_one (StrO.nil w7 w7 (Below.refl _ _)) (st ++ nb) (by simp); rw [show (⟨(st ++ nb).toArray⟩ : ByteArray) = ND from HND.out] at hrun; obtain ⟨va8, vc8, hv8⟩ := hro.sls.len; have hv8 : v' = .slice va8 1 vc8 := hv8; subst hv8; have H8 := Lib.hid (H7.out.below hro.old); have HP8 := Lib.hid (H8.out.put hro.sls (fun g hg => by have := (hro.own.lt g hg).1; have l1 := (Array.getElem?_eq_some_iff.1 H7.out.p).1; have l2 := (Array.getElem?_eq_some_iff.1 H7.out.r).1; have l3 := H7.out.old.size; exact ⟨by omega, by omega, by omega⟩)); have HRUN := Lib.hid hrun; obtain ⟨k0, k1, k2, k3, i0, i1, i2, i3⟩ := box50 H8.out.p; clear hrun hro; simp only [])
              | (at_builtin; refine wpList_run_append _ rfl _ _ 29 29 rfl _ _ rfl rfl HRUN.out ?_))
            exact ⟨.inr ⟨rfl, ⟨_, _, HP8.out⟩, HBT.out⟩, by simp [intOf]⟩
          | false =>
            have HBT : Hid (b = false) := HBB.out.symm
            go_wp2_with (first
              | (go_at_call 106; ((with_reducible refine (HFL.out _ HX.out.old).mono ?_)); rintro e w5 ⟨rfl, h5⟩; have H5 := Lib.hid (HX.out.below h5); clear h5; simp only [])
              | (go_at_call 107; ((with_reducible refine (HKD.out _ H5.out.old).mono ?_)); rintro e w6 ⟨rfl, h6⟩; have H6 := Lib.hid (H5.out.below h6); clear h6; have p0 := HC0.out _ H6.out.old; have p1 := HC1.out _ H6.out.old; simp only [])
              | (go_at_call 87; ((with_reducible refine (HKN.out _ H6.out.old).mono ?_)); rintro e w7 ⟨rfl, h7⟩; have H7 := Lib.hid (H6.out.below h7); clear h7; obtain ⟨u0, u1, u2, u3, v0, v1, v2, v3⟩ := box50 H7.out.p; obtain ⟨k0, k1, k2, k3, i0, i1, i2, i3⟩ := box50 H7.out.r; have HFX := Lib.hid (fin50 (u0 := .slice none 0 0) (u1 := .slice ra rcl.length rcc) (u2 := .string ST) (u3 := .bool false) H7.out.r); simp only []))
            simp +zetaDelta only [Exit.noGoto_ret]
            have hf := HFX.out
            refine bodyPost_ret (v := .tuple #[.agg #[.slice none 0 0, .slice ra rcl.length rcc, .string ST, .bool false], .bool false]) ?_ rfl ?_
            · obtain ⟨k0, k1, k2, k3, _⟩ := box50 hf
              simp [results, Tryd.results80, go_sem, k0, k1, k2, k3]
              try rfl
            · exact ⟨_, by rw [HBT.out, HST.out], by rw [HBT.out]; exact .inl ⟨rfl, rfl⟩, (H7.out.fin _ _ _ _).2, fun g hg => by cases hg⟩
        · have hkb : (kk == 0) = false := by simpa using hk0
          have HBT : Hid (b = true) := by rw [Hid, ← HBB.out]; simp [hk0]
          go_wp2_with (first
            | (go_at_call 106; ((with_reducible refine (HFL.out _ HX.out.old).mono ?_)); rintro e w5 ⟨rfl, h5⟩; have H5 := Lib.hid (HX.out.below h5); clear h5; simp only [])
            | (go_at_call 107; ((with_reducible refine (HKD.out _ H5.out.old).mono ?_)); rintro e w6 ⟨rfl, h6⟩; have H6 := Lib.hid (H5.out.below h6); clear h6; have p0 := HC0.out _ H6.out.old; have p1 := HC1.out _ H6.out.old; obtain ⟨u0, u1, u2, u3, v0, v1, v2, v3⟩ := box50 H6.out.p; obtain ⟨v', w8, hrun, hro⟩ := push_one (StrO.nil w6 w6 (Below.refl _ _)) (st ++ nb) (by simp); rw [show (⟨(st ++ nb).toArray⟩ : ByteArray) = ND from HND.out] at hrun; obtain ⟨va8, vc8, hv8⟩ := hro.sls.len; have hv8 : v' = .slice va8 1 vc8 := hv8; subst hv8; have H8 := Lib.hid (H6.out.below hro.old); have HP8 := Lib.hid (H8.out.put hro.sls (fun g hg => by have := (hro.own.lt g hg).1; have l1 := (Array.getElem?_eq_some_iff.1 H6.out.p).1; have l2 := (Array.getElem?_eq_some_iff.1 H6.out.r).1; have l3 := H6.out.old.size; exact ⟨by omega, by omega, by omega⟩)); have HRUN := Lib.hid hrun; obtain ⟨k0, k1, k2, k3, i0, i1, i2, i3⟩ := box50 H8.out.p; clear hrun hro; simp only [])
            | (at_builtin; refine wpList_run_append _ rfl _ _ 29 29 rfl _ _ rfl rfl HRUN.out ?_))
          exact ⟨.inr ⟨rfl, ⟨_, _, HP8.out⟩, HBT.out⟩, by simp [intOf]⟩
      · obtain ⟨a, c', hX⟩ := HX.out
        obtain ⟨z0, z1, z2, z3, y0, y1, y2, y3⟩ := box50 hX.p
        obtain ⟨k0, k1, k2, k3, i0, i1, i2, i3⟩ := box50 hX.r
        have HP := Lib.hid hX
        have HFX := Lib.hid (fin50 (u0 := .slice a 1 c') (u1 := .slice ra rcl.length rcc) (u2 := .string ST) (u3 := .bool false) hX.r)
        clear hX HX
        go_wp2_with fail
        simp +zetaDelta only [Exit.noGoto_ret]
        have hf := HFX.out
        refine bodyPost_ret (v := .tuple #[.agg #[.slice a 1 c', .slice ra rcl.length rcc, .string ST, .bool false], .bool true]) ?_ rfl ?_
        · obtain ⟨k0, k1, k2, k3, _⟩ := box50 hf
          simp [results, Tryd.results80, go_sem, k0, k1, k2, k3]
          try rfl
        · exact ⟨_, by rw [HBT.out, HST.out], by rw [HBT.out, if_pos rfl]; exact (HP.out.fin _ _ _ _).1, (HP.out.fin _ _ _ _).2, fun g hg => (HP.out.nb g hg).2.2⟩
end Go.Proofs.YtjagnihkpgbjeaaDoor
