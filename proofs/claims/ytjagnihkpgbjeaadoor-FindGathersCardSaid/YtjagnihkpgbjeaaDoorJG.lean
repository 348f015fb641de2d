import Derived.Test.YtjagnihkpgbjeaaDoorJD
namespace Go.Proofs.YtjagnihkpgbjeaaDoor
open Go.RowKit Go.Maps Go.ChangeMaps
set_option linter.unusedVariables false
/-! Plan where plain rules alone count: told by what run comes to. -/
def RunNone (w : World) (f : Nat) (cwd tg : ByteArray) (ms v : Value) : Prop := ∀ (sb : Nat) (w' : World), Below w.heap.size w w' → sb < w'.heap.size → w'.cell? ⟨sb, 0, none⟩ = some ms → w'.cell? ⟨sb, 1, none⟩ = some v → w'.cell? ⟨sb, 2, none⟩ = some (.pointer (some ⟨f, 0, none⟩)) → w'.cell? ⟨sb, 3, none⟩ = some (.string cwd) → w'.cell? ⟨sb, 4, none⟩ = some (.string tg) →
  Calls Tryd.prog 53 #[.pointer (some ⟨sb, 0, none⟩)] w' fun e w'' => e = .returned (.tuple #[.agg #[.slice none 0 0, .slice none 0 0, .string ⟨#[]⟩, .bool false], .bool false]) ∧ Below w'.heap.size w' w''
set_option maxRecDepth 100000 in
set_option maxHeartbeats 8000000 in
theorem Plan_gen (f : Nat) (cwd tg : ByteArray) (ms v : Value) (rs : List Rl) (w : World) (hv : RsV w v rs) (hl : rs.length ≤ 1000) (hfew : ∀ r ∈ rs, r.ns.length ≤ 100) (htg : tg.data.toList.head? ≠ some 46) (hms : ∃ a n c, ms = .slice a n c)
    (hrc : (planL (plainF rs tg.data.toList)).rc ≠ [] ∨ RunNone w f cwd tg ms v) :
    Calls Tryd.prog 27 #[.agg #[ms, v], .pointer (some ⟨f, 0, none⟩), .string cwd, .string tg] w (PlanP (planL (plainF rs tg.data.toList)) w) := by
  obtain ⟨am, nm, cm, rfl⟩ := hms
  obtain ⟨xl, hxl⟩ : ∃ xl, tg.data.toList = xl := ⟨_, rfl⟩
  have HSP := Lib.hid (fun w => special_no tg w htg)
  have HPL := Lib.hid (fun (w' : World) (hb : Below w.heap.size w w') => plain_any (.slice am nm cm) v rs tg w w' hv hb hl)
  unfold PlainP at HPL
  rw [hxl] at hrc HPL ⊢
  have HLP := Lib.hid (Nat.le_trans (plain_len rs xl) hl)
  have HFW : Hid (∀ r ∈ plainF rs xl, r.ns.length ≤ 100) := fun r hr => hfew r (List.mem_filter.1 hr).1
  obtain ⟨P, hP⟩ : ∃ P, plainF rs xl = P := ⟨_, rfl⟩
  rw [hP] at hrc HPL HLP HFW ⊢
  have HRC := Lib.hid hrc
  obtain ⟨Q, hQ⟩ : ∃ Q, PlanP (planL P) w = Q := ⟨_, rfl⟩
  rw [hQ]
  have HQ := Lib.hid hQ
  obtain ⟨a, n0, c, rfl⟩ : ∃ a n c, v = .slice a n c := by obtain ⟨a, c, rfl⟩ := hv.len; exact ⟨_, _, _, rfl⟩
  obtain ⟨W0, hW0⟩ : ∃ W0, ((w.alloc (.cells #[.slice am nm cm, .slice a n0 c] 45)).alloc (.cells #[.slice none 0 0, .slice none 0 0, .string ⟨#[]⟩, .bool false] 50)).alloc (.cells #[.slice none 0 0, .slice none 0 0, .string ⟨#[]⟩, .bool false] 50) = W0 := ⟨_, rfl⟩
  have HW0 := Lib.hid hW0
  clear hv hfew htg hrc hxl hP hQ hl hW0
  go_enter Tryd.func27, Tryd.ntmps27
  go_wp2_with (go_at_call 50; refine (HSP.out _).mono ?_; rintro e w1 ⟨rfl, h1⟩; obtain rfl := h1.symm; simp only [])
  go_wp2_with fail
  rw [HW0.out]
  have hB0 : Below w.heap.size w W0 := by
    rw [← HW0.out]
    exact below_trans (below_alloc _ _) (below_trans (below_alloc _ _) (below_alloc _ _))
  have hs0 : W0.heap.size = w.heap.size + 1 + 1 + 1 := by rw [← HW0.out, size_alloc, size_alloc, size_alloc]
  have z9 : W0.heap[w.heap.size + 1 + 1]? = some (.cells [.slice none 0 0, .slice none 0 0, .string ⟨#[]⟩, .bool false].toArray 50 (0, 0)) := by
    rw [← HW0.out]
    have := heap_alloc_new ((w.alloc (.cells #[.slice am nm cm, .slice a n0 c] 45)).alloc (.cells #[.slice none 0 0, .slice none 0 0, .string ⟨#[]⟩, .bool false] 50)) (.cells #[.slice none 0 0, .slice none 0 0, .string ⟨#[]⟩, .bool false] 50)
    rw [size_alloc, size_alloc] at this
    exact this
  have z8 : W0.heap[w.heap.size + 1]? = some (.cells [.slice none 0 0, .slice none 0 0, .string ⟨#[]⟩, .bool false].toArray 50 (0, 0)) := by
    rw [← HW0.out, Below.heap_alloc _ _ _ (by rw [size_alloc, size_alloc]; omega)]
    have := heap_alloc_new (w.alloc (.cells #[.slice am nm cm, .slice a n0 c] 45)) (.cells #[.slice none 0 0, .slice none 0 0, .string ⟨#[]⟩, .bool false] 50)
    rw [size_alloc] at this
    exact this
  have z4 : W0.heap[w.heap.size]? = some (.cells #[.slice am nm cm, .slice a n0 c] 45) := by
    rw [← HW0.out, Below.heap_alloc _ _ _ (by rw [size_alloc, size_alloc]; omega), Below.heap_alloc _ _ _ (by rw [size_alloc]; omega)]
    exact heap_alloc_new w _
  have HB0 := Lib.hid hB0
  have HS0 := Lib.hid hs0
  have HZ9 := Lib.hid z9
  have HZ8 := Lib.hid z8
  have HZ4 := Lib.hid z4
  clear hB0 hs0 z9 z8 z4
  refine (HPL.out _ HB0.out).mono ?_
  rintro e w1 ⟨u, rfl, h1⟩
  have H1 := Lib.hid h1
  obtain ⟨ua, uc, hu⟩ := (h1.rsv HB0.out).len
  rw [hu] at H1 ⊢
  clear h1 hu
  obtain ⟨n, hn⟩ : ∃ n, P.length = n := ⟨_, rfl⟩
  rw [hn] at HLP H1
  simp only [hn]
  have HN := Lib.hid hn
  have hnl : n ≤ 1000 := HLP.out
  obtain ⟨b9, hb9⟩ : ∃ b9, w.heap.size + 1 + 1 = b9 := ⟨_, rfl⟩
  rw [hb9] at HZ9
  have HB9 : Hid (b9 < W0.heap.size) := by have := HS0.out; rw [Hid]; omega
  have HB91 : Hid (b9 < w1.heap.size) := Nat.lt_of_lt_of_le HB9.out H1.out.old.size
  have HPR0 : Hid (PR w w1 w1 b9 ⟨[], [], false⟩) := ⟨⟨none, 0, 0, none, 0, 0, (H1.out.old.block _ HB9.out).trans HZ9.out, World.ownsRow_nil _ _ _ _, sl0 _⟩, Only.refl _ _, by simp⟩
  clear hn
  simp only [hb9]
  go_wp2_with fail
  go_loopw [22] (fun i wr => ∃ k : Nat, k ≤ n ∧ i = .int .i64 k ∧ Hid (PR w w1 wr b9 (planL (P.take k)))) (fun i _ => n - (intOf i).toNat)
  case atStart => exact ⟨0, Nat.zero_le _, rfl, HPR0.out⟩
  case round =>
    clear HPR0
    obtain ⟨k, hk, rfl, HX⟩ := hrel
    by_cases hlt : k < n
    · have hltI : (k : Int) < (n : Int) := by omega
      have h0 : (0 : Int) ≤ (k : Int) := by omega
      have hlr : k < P.length := by rw [HN.out]; exact hlt
      obtain ⟨g, a0, n0, c0, a1, n1, c1, a2, n2, c2, rfl, q0, q1, q2, hr⟩ := H1.out.get3 HX.out.oth (fun j hj => hj ▸ HB9.out) k hlr
      have hadd : (⟨g, 0, none⟩ : Addr).add (k * 3) = ⟨g, k * 3, none⟩ := by rw [addk, Nat.zero_add]
      obtain ⟨x0, xn0, xc0, x1, xn1, xc1, hblk, hown, hrv⟩ := HX.out.blk
      have hba := below_alloc wr (.cells #[.slice a0 n0 c0, .slice a1 n1 c1, .slice a2 n2 c2] 48)
      obtain ⟨z0, z1, z2, z3, y0, y1, y2, y3⟩ := box50 ((hba.block _ (Array.getElem?_eq_some_iff.1 hblk).1).trans hblk)
      have hne : b9 ≠ wr.heap.size := by have := (Array.getElem?_eq_some_iff.1 hblk).1; omega
      have hne' : wr.heap.size ≠ b9 := fun e => hne e.symm
      have hno : wr.heap.size ≠ b9 := fun e => hne e.symm
      have HBW1 : Hid (Below w.heap.size w w1) := HB0.out.trans (H1.out.old.mono HB0.out.size)
      have hwb9 : w.heap.size ≤ b9 := by omega
      have h15 := HX.out.pre HB91.out (.cells #[.slice a0 n0 c0, .slice a1 n1 c1, .slice a2 n2 c2] 48)
      have h25 : Only (fun j => j = b9) wr ((wr.alloc (.cells #[.slice a0 n0 c0, .slice a1 n1 c1, .slice a2 n2 c2] 48)).setCell ⟨b9, 3, none⟩ (.bool true)) := (Only.of_below (S := fun j => j = b9) hba).set (.inl rfl) 3 _
      have hblk5 := set_of ((hba.block _ (Array.getElem?_eq_some_iff.1 hblk).1).trans hblk) 3 (.bool true)
      have hbox5 : ((wr.alloc (.cells #[.slice a0 n0 c0, .slice a1 n1 c1, .slice a2 n2 c2] 48)).setCell ⟨b9, 3, none⟩ (.bool true)).heap[wr.heap.size]? = some (.cells [.slice a0 n0 c0, .slice a1 n1 c1, .slice a2 n2 c2].toArray 48 (0, 0)) := by
        rw [Below.heap_setCell _ _ _ _ (by show wr.heap.size ≠ b9; exact hno)]; exact heap_alloc_new wr _
      obtain ⟨W5, hW5⟩ : ∃ W5, (wr.alloc (.cells #[.slice a0 n0 c0, .slice a1 n1 c1, .slice a2 n2 c2] 48)).setCell ⟨b9, 3, none⟩ (.bool true) = W5 := ⟨_, rfl⟩
      rw [hW5] at h15 h25 hblk5 hbox5
      have hs5 : wr.heap.size < W5.heap.size := (Array.getElem?_eq_some_iff.1 hbox5).1
      have hown5 := own_onlyX hown h25 (fun j hj => hj ▸ HB91.out)
      have hSge : ∀ j, Value.ownBlock (.slice x0 xn0 xc0) = some j → w1.heap.size ≤ j ∧ j < wr.heap.size := fun j hj => hown.lt j hj
      have hB15 : Below w.heap.size w W5 := HBW1.out.trans (h15.below (fun k hk => by subst hk; exact hwb9) HBW1.out.size)
      have hns := HFW.out P[k] (List.getElem_mem hlr)
      have HPN : Hid ((planL (P.take k)).ns.length ≤ 200000) := by
        have := planL_ns (P.take k) ⟨[], [], false⟩ (fun r hr => HFW.out r (List.mem_of_mem_take hr))
        have e2 : (P.take k).length ≤ 1000 := by simp; omega
        refine Nat.le_trans this ?_
        show 0 + _ ≤ _
        omega
      have HADD := Lib.hid (addS_any w1.heap.size (fun j => Value.ownBlock (.slice x0 xn0 xc0) = some j) (.slice x0 xn0 xc0) (.slice a1 n1 c1) _ P[k].ns W5 h15.size hown5 (fun _ h => h) (fun w' ho => hr.n.below (hB15.trans (ho.below (fun k hk => Nat.le_trans HBW1.out.size (hSge k hk).1) hB15.size))) (by have := HPN.out; omega))
      have HT := Lib.hid (planL_take P k hlr)
      have HAFT := Lib.hid (fun (w6 : World) (v' : Value) (h : AddSR w1.heap.size (fun j => Value.ownBlock (.slice x0 xn0 xc0) = some j) W5 w6 v' (addF (planL (P.take k)).ns P[k].ns)) => (show w6.heap[b9]? = some (.cells [.slice x0 xn0 xc0, .slice x1 xn1 xc1, .string ⟨#[]⟩, .bool true].toArray 50 (0, 0)) ∧ w6.heap[wr.heap.size]? = some (.cells [.slice a0 n0 c0, .slice a1 n1 c1, .slice a2 n2 c2].toArray 48 (0, 0)) ∧ Only (fun j => j = b9) w1 w6 from
        ⟨(h.oth.block b9 (Array.getElem?_eq_some_iff.1 hblk5).1 (fun e => by have := (hSge b9 e).1; have := HB91.out; omega)).trans hblk5,
         (h.oth.block wr.heap.size hs5 (fun e => by have := (hSge _ e).2; omega)).trans hbox5,
         h15.trans h.oth (fun _ h => h) (fun i hi e => by have := (hSge i e).1; omega)⟩))
      have HR3 := Lib.hid hr
      have HRV := Lib.hid hrv
      have HW5 := Lib.hid hW5
      obtain ⟨rn, hrn⟩ : ∃ rn, P[k].rc.length = rn := ⟨_, rfl⟩
      have hn2 : n2 = rn := by
        obtain ⟨a', c', e⟩ := hr.k.len
        rw [hrn] at e
        injection e
      subst hn2
      have HRNN := Lib.hid hrn
      clear hr hrv hown hown5 hSge hB15 h15 h25 hblk hblk5 hbox5 hs5 hba hns hrn
      by_cases hr0 : n2 = 0
      · subst hr0
        have HN3 : Hid (planL (P.take (k + 1)) = ⟨addF (planL (P.take k)).ns P[k].ns, (planL (P.take k)).rc, true⟩) := by rw [Hid, HT.out, if_pos (List.eq_nil_of_length_eq_zero HRNN.out)]
        clear hW5
        go_wp2_with fail
        rw [HW5.out]
        refine HADD.out.mono ?_
        rintro e w6 ⟨v', rfl, ha⟩
        obtain ⟨f1, f2, f3⟩ := HAFT.out w6 v' ha
        obtain ⟨e0, e1, e2, e3, i0, i1, i2, i3⟩ := box50 f1
        have j2 : w6.cell? ⟨wr.heap.size, 2, none⟩ = some (.slice a2 0 c2) := cell_of f2 2
        have HA := Lib.hid ha
        have HF1 := Lib.hid f1
        have HF3 := Lib.hid f3
        obtain ⟨va, vn, vc, rfl⟩ := sl_form (SlS.own ha.own)
        clear ha f1 f2 f3
        simp only []
        go_wp2_with fail
        refine ⟨⟨k + 1, by omega, by go_num, ?_⟩, by simp [intOf]; omega⟩
        rw [HN3.out]
        exact ⟨⟨va, vn, vc, x1, xn1, xc1, set_of HF1.out 0 _, own_onlyX HA.out.own ((Only.refl (fun j => j = b9) w6).set (.inl rfl) 0 _) (fun j hj => hj ▸ HB91.out), HRV.out⟩, HF3.out.set (.inl rfl) 0 _, HX.out.lk⟩
      · have hr1 : 0 < n2 := by omega
        have hr1I : (0 : Int) < (n2 : Int) := by omega
        have HN3 : Hid (planL (P.take (k + 1)) = ⟨addF (planL (P.take k)).ns P[k].ns, P[k].rc, true⟩) := by rw [Hid, HT.out, if_neg (fun e => by have := HRNN.out; rw [e] at this; simp at this; omega)]
        clear hW5
        go_wp2_with fail
        rw [HW5.out]
        refine HADD.out.mono ?_
        rintro e w6 ⟨v', rfl, ha⟩
        obtain ⟨f1, f2, f3⟩ := HAFT.out w6 v' ha
        obtain ⟨e0, e1, e2, e3, i0, i1, i2, i3⟩ := box50 f1
        have j2 : w6.cell? ⟨wr.heap.size, 2, none⟩ = some (.slice a2 n2 c2) := cell_of f2 2
        have HA := Lib.hid ha
        have HF1 := Lib.hid f1
        have HF3 := Lib.hid f3
        obtain ⟨va, vn, vc, rfl⟩ := sl_form (SlS.own ha.own)
        clear ha f1 f2 f3
        simp only []
        go_wp2_with fail
        refine ⟨⟨k + 1, by omega, by go_num, ?_⟩, by simp [intOf]; omega⟩
        rw [HN3.out]
        exact ⟨⟨va, vn, vc, a2, n2, c2, set_of (set_of HF1.out 0 _) 1 _, own_onlyX HA.out.own (((Only.refl (fun j => j = b9) w6).set (.inl rfl) 0 _).set (.inl rfl) 1 _) (fun j hj => hj ▸ HB91.out), HR3.out.k⟩, (HF3.out.set (.inl rfl) 0 _).set (.inl rfl) 1 _, HR3.out.lk⟩
    · have hltI : ¬ (k : Int) < (n : Int) := by omega
      have hP : P.take k = P := List.take_of_length_le (by rw [HN.out]; omega)
      have HX2 : Hid (PR w w1 wr b9 (planL P)) := by have := HX.out; rw [hP] at this; exact this
      obtain ⟨x0, xn0, xc0, x1, xn1, xc1, hblk, hown, hrv⟩ := HX2.out.blk
      have HBLK := Lib.hid hblk
      have HOWN := Lib.hid hown
      have HRV := Lib.hid hrv
      have hoth := HX2.out.oth
      have hs1 := H1.out.old.size
      have hs0 := HS0.out
      have hlt9 := HB91.out
      have hz4 : wr.heap[w.heap.size]? = some (.cells [.slice am nm cm, .slice a n0 c].toArray 45 (0, 0)) := (hoth.block _ (by omega) (by omega)).trans ((H1.out.old.block _ (by omega)).trans HZ4.out)
      have hz8 : wr.heap[w.heap.size + 1]? = some (.cells [.slice none 0 0, .slice none 0 0, .string ⟨#[]⟩, .bool false].toArray 50 (0, 0)) := (hoth.block _ (by omega) (by omega)).trans ((H1.out.old.block _ (by omega)).trans HZ8.out)
      have HZ4' := Lib.hid hz4
      have HZ8' := Lib.hid hz8
      have hBW : Below w.heap.size w wr := (HB0.out.trans (H1.out.old.mono HB0.out.size)).trans (hoth.below (fun k hk => by subst hk; omega) (by omega))
      have HBW := Lib.hid hBW
      have HCL := Lib.hid (fun (w' : World) (hb : Below w.heap.size w w') => Clone_any (.slice x1 xn1 xc1) (planL P).rc w' (hrv.below hb) (by have := HX2.out.lk; omega))
      have hsz9 : b9 < wr.heap.size := (Array.getElem?_eq_some_iff.1 hblk).1
      have HFIN := Lib.hid (fun (w7 : World) (v' : Value) (hb : Below wr.heap.size wr w7) (hv : SlS w7 v' (planL P).rc) => plan_fin (P := P) hown hblk hz8 HBW.out (show w.heap.size + 1 < b9 by omega) (show w.heap.size + 1 ≠ b9 by omega) hlt9 (by omega) hoth hb hv)
      have hxl : xn1 = (planL P).rc.length := by obtain ⟨a', c', e⟩ := hrv.len; injection e
      obtain ⟨pr, hpr⟩ : ∃ pr, (planL P).rule = pr := ⟨_, rfl⟩
      rw [hpr] at HBLK HFIN
      obtain ⟨b8, hb8⟩ : ∃ b8, w.heap.size + 1 = b8 := ⟨_, rfl⟩
      rw [hb8] at HZ8' HFIN
      have hne89 : b8 ≠ b9 := by omega
      have hne98 : b9 ≠ b8 := fun e => hne89 e.symm
      have hsz8 : b8 < wr.heap.size := by omega
      obtain ⟨k0, k1, k2, k3, i0, i1, i2, i3⟩ := box50 HBLK.out
      have HWR0 : Hid (Below wr.heap.size wr wr) := Below.refl _ _
      by_cases hrl : xn1 = 0
      · subst hrl
        have hnil : RunNone w f cwd tg (.slice am nm cm) (.slice a n0 c) := by
          rcases HRC.out with h | h
          · exact absurd (List.eq_nil_of_length_eq_zero hxl.symm) h
          · exact h
        have HNIL := Lib.hid hnil
        clear hnil
        have p0 : wr.cell? ⟨w.heap.size, 0, none⟩ = some (.slice am nm cm) := cell_of HZ4'.out 0
        have p1 : wr.cell? ⟨w.heap.size, 1, none⟩ = some (.slice a n0 c) := cell_of HZ4'.out 1
        clear hblk hown hrv hoth hs1 hs0 hz4 hz8 hBW hxl hP
        have HA9 := Lib.hid (below_alloc wr (.cells #[.slice am nm cm, .slice a n0 c, .pointer (some ⟨f, 0, none⟩), .string cwd, .string tg] 91))
        go_wp2_with (first
          | (go_at_call 53; refine (HNIL.out wr.heap.size _ (HBW.out.trans (HA9.out.mono HBW.out.size)) (by rw [size_alloc]; omega) (by rw [cell_new]; rfl) (by rw [cell_new]; rfl) (by rw [cell_new]; rfl) (by rw [cell_new]; rfl) (by rw [cell_new]; rfl)).mono ?_; rintro e w5 ⟨rfl, h5⟩; have HWR : Hid (Below wr.heap.size wr (w5.alloc (.cells #[.slice none 0 0, .slice none 0 0, .string ⟨#[]⟩, .bool false] 50))) := below_trans HA9.out (below_trans h5 (below_alloc _ _)); have HBASE : Hid (Below w.heap.size w (w5.alloc (.cells #[.slice none 0 0, .slice none 0 0, .string ⟨#[]⟩, .bool false] 50))) := HBW.out.trans (HWR.out.mono HBW.out.size); obtain ⟨k0, k1, k2, k3, i0, i1, i2, i3⟩ := box50 ((HWR.out.block _ hsz9).trans HBLK.out); clear h5; simp only [])
          | (go_at_call 54; refine (HCL.out _ HBASE.out).mono ?_; rintro e w7 ⟨v', rfl, h7⟩; obtain ⟨g9, g8, gf⟩ := HFIN.out w7 v' (HWR.out.trans (h7.old.mono HWR.out.size)) h7.sls; obtain ⟨k0, k1, k2, k3, i0, i1, i2, i3⟩ := box50 g9; obtain ⟨l0, l1, l2, l3, j0, j1, j2, j3⟩ := box50 g8; obtain ⟨va, vn, vc, rfl⟩ := sl_form h7.sls; have HPF := Lib.hid (gf (fun g hg => by have := (h7.own.lt g hg).1; have := HWR.out.size; exact ⟨by omega, by omega⟩)); clear h7 g9 g8 gf; simp only []))
        rw [← HQ.out]
        have hf := HPF.out.blk
        refine bodyPost_ret (v := .agg #[.slice x0 xn0 xc0, .slice va vn vc, .string ⟨#[]⟩, .bool pr]) ?_ rfl ?_
        · obtain ⟨k0, k1, k2, k3, _⟩ := box50 hf
          simp [results, Tryd.results27, go_sem, k0, k1, k2, k3]
          try rfl
        · exact ⟨_, _, by rw [hpr], HPF.out.n, HPF.out.r, HPF.out.old, HPF.out.nb⟩
      · have hrl1 : ((xn1 : Int) == 0) = false := by simpa using hrl
        have HWR := HWR0
        have HBASE := HBW
        clear hblk hown hrv hoth hs1 hs0 hz4 hz8 hBW hxl hP HWR0
        go_wp2_with (go_at_call 54; refine (HCL.out _ HBASE.out).mono ?_; rintro e w7 ⟨v', rfl, h7⟩; obtain ⟨g9, g8, gf⟩ := HFIN.out w7 v' (HWR.out.trans (h7.old.mono HWR.out.size)) h7.sls; obtain ⟨k0, k1, k2, k3, i0, i1, i2, i3⟩ := box50 g9; obtain ⟨l0, l1, l2, l3, j0, j1, j2, j3⟩ := box50 g8; obtain ⟨va, vn, vc, rfl⟩ := sl_form h7.sls; have HPF := Lib.hid (gf (fun g hg => by have := (h7.own.lt g hg).1; have := HWR.out.size; exact ⟨by omega, by omega⟩)); clear h7 g9 g8 gf; simp only [])
        rw [← HQ.out]
        have hf := HPF.out.blk
        refine bodyPost_ret (v := .agg #[.slice x0 xn0 xc0, .slice va vn vc, .string ⟨#[]⟩, .bool pr]) ?_ rfl ?_
        · obtain ⟨k0, k1, k2, k3, _⟩ := box50 hf
          simp [results, Tryd.results27, go_sem, k0, k1, k2, k3]
          try rfl
        · exact ⟨_, _, by rw [hpr], HPF.out.n, HPF.out.r, HPF.out.old, HPF.out.nb⟩
theorem Plan_miss {w : World} {B N f : Nat} {c : Cn} {T : Tr} {F : Nat → Prop} (hF : Fs w B N f c T F) (hm : Hm w) (ms v : Value) (rs : List Rl) (st back : Bs) (hv : RsV w v rs) (hl : rs.length ≤ 1000) (hfew : ∀ r ∈ rs, r.ns.length ≤ 100) (hrc : ∀ r ∈ rs, r.rc = [] ∨ PatOk st back r) (hst : st ≠ []) (hl1 : st.length + back.length ≤ 10000) (hms : ∃ a n c, ms = .slice a n c)
    (htg : (st ++ back).head? ≠ some 46) (hmiss : rs.find? (fitF T rs st) = none) :
    Calls Tryd.prog 27 #[.agg #[ms, v], .pointer (some ⟨f, 0, none⟩), .string ⟨#[47]⟩, .string (nameB (st ++ back))] w (PlanP (planL (plainF rs (st ++ back))) w) := by
  have := Plan_gen f ⟨#[47]⟩ (nameB (st ++ back)) ms v rs w hv hl hfew (by rw [nameB_list]; exact htg) hms (.inr (fun sb w' hb hlt q0 q1 q2 q3 q4 => by
    have := run_pats (hF.below hb) (hm.below hb) sb ms v rs st back w hb hv hl hrc hst hl1 hlt q0 q1 q2 q3 q4 hms
    rw [hmiss] at this
    refine this.mono ?_
    rintro e w'' ⟨nv, rv, h1, _, _, h4, _, h6⟩
    obtain ⟨rfl, rfl⟩ := h6 rfl
    exact ⟨h1, h4⟩))
  rw [nameB_list] at this
  exact this
end Go.Proofs.YtjagnihkpgbjeaaDoor

namespace Go.Proofs.YtjagnihkpgbjeaaDoor
open Go.RowKit Go.Maps Go.ChangeMaps
set_option linter.unusedVariables false
/-! FindChains: the rules, the files, what fits. -/
def sj (j : Nat) : Bs := 46 :: 115 :: dg j
def patR (j : Nat) : Rl := ⟨[[37, 46, 111]], [37 :: sj j], [114 :: sj j]⟩
def plR (st : Bs) (j : Nat) : Rl := ⟨[st ++ sj j], [], []⟩
def addR (st : Bs) (b : Bool) (i : Nat) : List Rl := if b then [plR st i] else []
def chR (st : Bs) (th : Nat → Bool) (kn : Bool) : Nat → List Rl
  | 0 => []
  | i + 1 => chR st th kn i ++ patR i :: addR st (th i && kn) i
/-- How many files are written; the tree behind the first i rounds. -/
def chN (th : Nat → Bool) (kn : Bool) : Nat → Nat
  | 0 => 0
  | i + 1 => if th i && !kn then chN th kn i + 1 else chN th kn i
def chT (st : Bs) (th : Nat → Bool) (kn : Bool) : Nat → Tr
  | 0 => newT
  | i + 1 => if th i && !kn then setF (chT st th kn i) [st ++ sj i] (some ⟨true, [], (chN th kn i : Int) + 1⟩) else chT st th kn i
theorem dg_inj : ∀ i j : Fin 10, dg i.val = dg j.val → i = j := by decide
theorem sj_inj (st : Bs) {i j : Nat} (hi : i < 10) (hj : j < 10) (h : st ++ sj i = st ++ sj j) : i = j := by
  have h := List.append_cancel_left h
  unfold sj at h
  injection h with _ h
  injection h with _ h
  have := dg_inj ⟨i, hi⟩ ⟨j, hj⟩ h
  injection this
theorem chT_at (st : Bs) (th : Nat → Bool) (kn : Bool) (j : Nat) (hj : j < 10) : ∀ n, n ≤ 10 → kdF (chT st th kn n) (st ++ sj j) = if decide (j < n) && (th j && !kn) then 1 else 0
  | 0, _ => by simp [chT]; rfl
  | n + 1, hn => by
    have ih := chT_at st th kn j hj n (by omega)
    unfold chT
    by_cases h : (th n && !kn) = true
    · rw [if_pos h]
      by_cases e : j = n
      · subst e
        rw [h]
        unfold kdF setF
        rw [if_pos rfl]
        simp
      · have hne : ([st ++ sj j] : Pth) ≠ [st ++ sj n] := fun e2 => e (sj_inj st hj (by omega) (by injection e2))
        have : kdF (setF (chT st th kn n) [st ++ sj n] (some ⟨true, [], (chN th kn n : Int) + 1⟩)) (st ++ sj j) = kdF (chT st th kn n) (st ++ sj j) := by
          unfold kdF setF
          rw [if_neg hne]
        rw [this, ih]
        have e2 : decide (j < n + 1) = decide (j < n) := by by_cases h2 : j < n <;> simp [h2] <;> omega
        rw [e2]
    · rw [if_neg h, ih]
      by_cases e : j = n
      · subst e
        have h : (th j && !kn) = false := by simpa using h
        rw [h]; simp
      · have e2 : decide (j < n + 1) = decide (j < n) := by by_cases h2 : j < n <;> simp [h2] <;> omega
        rw [e2]
theorem no37 {st : Bs} (hst : ∀ c ∈ st, 97 ≤ c ∧ c ≤ 122) (j : Nat) (hj : j < 10) : (37 : UInt8) ∉ st ++ sj j := by
  intro h
  rcases List.mem_append.1 h with h | h
  · have := (hst 37 h).1
    exact absurd this (by decide)
  · revert h
    have : ∀ j : Fin 10, (37 : UInt8) ∉ sj j.val := by decide
    exact this ⟨j, hj⟩
theorem knownF_app (a b : List Rl) (x : Bs) : knownF (a ++ b) x = (knownF a x || knownF b x) := by unfold knownF; rw [List.any_append]
theorem makes_pat {st : Bs} (hst : ∀ c ∈ st, 97 ≤ c ∧ c ≤ 122) (i j : Nat) (hj : j < 10) : makesF (patR i) (st ++ sj j) = false := by
  have h : ([[37, 46, 111]] : List Bs).contains (st ++ sj j) = false := by
    rw [Bool.eq_false_iff]
    intro h
    have := List.contains_iff_mem.1 h
    have e : st ++ sj j = [37, 46, 111] := by simpa using this
    exact no37 hst j hj (by rw [e]; simp)
  unfold makesF patR
  rw [h]; rfl
theorem indexByte_no : ∀ {l : List UInt8}, (37 : UInt8) ∉ l → Lib.indexByte l 37 = -1
  | [], _ => by rfl
  | c :: l, h => by
    have h1 : c ≠ (37 : UInt8) := fun e => h (by rw [e]; simp)
    have h2 : (37 : UInt8) ∉ l := fun e => h (List.mem_cons_of_mem _ e)
    unfold Lib.indexByte
    rw [if_neg (by simpa using h1), indexByte_no h2]
    rfl
theorem pct_no {l : Bs} (h : (37 : UInt8) ∉ l) : pct l = false := by
  unfold pct
  rw [indexByte_no h]; rfl
theorem makes_pl {st : Bs} (hst : ∀ c ∈ st, 97 ≤ c ∧ c ≤ 122) (i j : Nat) (hi : i < 10) (hj : j < 10) : makesF (plR st i) (st ++ sj j) = decide (i = j) := by
  unfold makesF isPlainF plR
  by_cases e : i = j
  · subst e
    simp [pct_no (no37 hst i hi)]
  · have : st ++ sj j ≠ st ++ sj i := fun h => e (sj_inj st hi hj h.symm)
    simp only [List.contains_cons, List.contains_nil, Bool.or_false, e, decide_false]
    rw [beq_eq_false_iff_ne.2 this]; rfl
theorem known_at {st : Bs} (hst : ∀ c ∈ st, 97 ≤ c ∧ c ≤ 122) (th : Nat → Bool) (kn : Bool) (j : Nat) (hj : j < 10) : ∀ n, n ≤ 10 → knownF (chR st th kn n) (st ++ sj j) = (decide (j < n) && (th j && kn))
  | 0, _ => by simp [chR, knownF]
  | n + 1, hn => by
    have ih := known_at hst th kn j hj n (by omega)
    unfold chR
    rw [knownF_app, ih]
    have e0 : knownF (patR n :: addR st (th n && kn) n) (st ++ sj j) = (decide (n = j) && (th n && kn)) := by
      unfold knownF
      rw [List.any_cons, makes_pat hst n j hj]
      cases h : (th n && kn) with
      | false => simp [addR]
      | true =>
        show (false || (addR st true n).any _) = _
        unfold addR
        rw [if_pos rfl, List.any_cons, makes_pl hst n j (by omega) hj]; simp
    rw [e0]
    by_cases e : n = j
    · subst e; simp
    · have e2 : decide (j < n + 1) = decide (j < n) := by by_cases h2 : j < n <;> simp [h2] <;> omega
      rw [e2]; simp [e]
theorem fit_pat {st : Bs} (hst : ∀ c ∈ st, 97 ≤ c ∧ c ≤ 122) (th : Nat → Bool) (kn : Bool) (n j : Nat) (hj : j < n) (hn : n ≤ 10) : fitF (chT st th kn n) (chR st th kn n) st (patR j) = th j := by
  have h1 := chT_at st th kn j (by omega) n hn
  have h2 := known_at hst th kn j (by omega) n hn
  have e : needF st (patR j) = st ++ sj j := rfl
  unfold fitF
  rw [e, h1, h2]
  have hj' : decide (j < n) = true := by simpa using hj
  rw [hj']
  cases th j <;> cases kn <;> rfl
theorem fit_pl (T : Tr) (rs : List Rl) (st : Bs) (j : Nat) : fitF T rs st (plR st j) = false := rfl
def firstT (th : Nat → Bool) : Nat → Option Nat
  | 0 => none
  | m + 1 => match firstT th m with
    | some k => some k
    | none => if th m then some m else none
theorem find_ch {st : Bs} (hst : ∀ c ∈ st, 97 ≤ c ∧ c ≤ 122) (th : Nat → Bool) (kn : Bool) (n : Nat) (hn : n ≤ 10) : ∀ m, m ≤ n → (chR st th kn m).find? (fitF (chT st th kn n) (chR st th kn n) st) = (firstT th m).map patR
  | 0, _ => rfl
  | m + 1, hm => by
    have ih := find_ch hst th kn n hn m (by omega)
    have hf := fit_pat hst th kn n m (by omega) hn
    obtain ⟨p, hp⟩ : ∃ p, fitF (chT st th kn n) (chR st th kn n) st = p := ⟨_, rfl⟩
    have hpl : p (plR st m) = false := by rw [← hp]; rfl
    rw [hp] at ih hf ⊢
    unfold chR firstT
    rw [List.find?_append, ih]
    cases h : firstT th m with
    | some k => rfl
    | none =>
      show (none.or ((patR m :: addR st (th m && kn) m).find? p)) = _
      rw [Option.none_or, List.find?_cons, hf]
      cases h2 : th m with
      | true => rfl
      | false =>
        show (addR st (false && kn) m).find? p = _
        unfold addR
        simp
theorem ch_mem {st : Bs} (th : Nat → Bool) (kn : Bool) : ∀ n, ∀ r ∈ chR st th kn n, (∃ j, j < n ∧ r = patR j) ∨ (∃ j, j < n ∧ r = plR st j)
  | 0, r, h => by simp [chR] at h
  | n + 1, r, h => by
    unfold chR at h
    rcases List.mem_append.1 h with h | h
    · rcases ch_mem th kn n r h with ⟨j, hj, e⟩ | ⟨j, hj, e⟩
      · exact .inl ⟨j, by omega, e⟩
      · exact .inr ⟨j, by omega, e⟩
    · rcases List.mem_cons.1 h with h | h
      · exact .inl ⟨n, by omega, h⟩
      · unfold addR at h
        split at h
        · exact .inr ⟨n, by omega, by simpa using h⟩
        · simp at h
theorem ch_len {st : Bs} (th : Nat → Bool) (kn : Bool) : ∀ n, (chR st th kn n).length ≤ 2 * n
  | 0 => by simp [chR]
  | n + 1 => by
    have ih := ch_len (st := st) th kn n
    unfold chR addR
    rw [List.length_append, List.length_cons]
    split <;> simp <;> omega
theorem ch_few {st : Bs} (th : Nat → Bool) (kn : Bool) (n : Nat) : ∀ r ∈ chR st th kn n, r.ns.length ≤ 100 := by
  intro r h
  rcases ch_mem th kn n r h with ⟨j, _, rfl⟩ | ⟨j, _, rfl⟩ <;> simp [patR, plR]
theorem sj_len (j : Nat) : (sj j).length ≤ 4 := by have := dg_len j; unfold sj; simp; omega
theorem sj_ok : ∀ j : Fin 10, ∀ c ∈ sj j.val, c ≠ 47 ∧ c ≠ 0 := by decide
theorem nm_ch {st : Bs} (h0 : st ≠ []) (hst : ∀ c ∈ st, 97 ≤ c ∧ c ≤ 122) (hl : st.length ≤ 30) (j : Nat) (hj : j < 10) : Nm (st ++ sj j) := by
  have hlt := sj_len j
  have h0' : 0 < st.length := List.length_pos_iff.2 h0
  have h2 : 2 ≤ (sj j).length := by unfold sj; simp
  have hc : ∀ c ∈ st ++ sj j, c ≠ 47 ∧ c ≠ 0 := fun c hc => by
    rcases List.mem_append.1 hc with h | h
    · have := hst c h
      exact ⟨fun e => by rw [e] at this; exact absurd this.1 (by decide), fun e => by rw [e] at this; exact absurd this.1 (by decide)⟩
    · exact sj_ok ⟨j, hj⟩ c h
  refine ⟨fun e => ?_, fun e => ?_, fun e => ?_, fun c h => (hc c h).1, fun c h => (hc c h).2, by rw [List.length_append]; omega⟩
  all_goals
    have := congrArg List.length e
    rw [List.length_append] at this
    simp only [List.length_nil, List.length_cons] at this
    omega
theorem ch_pats {st : Bs} (h0 : st ≠ []) (hst : ∀ c ∈ st, 97 ≤ c ∧ c ≤ 122) (hl : st.length ≤ 30) (th : Nat → Bool) (kn : Bool) (n : Nat) (hn : n ≤ 10) : ∀ r ∈ chR st th kn n, r.rc = [] ∨ PatOk st [46, 111] r := by
  intro r h
  rcases ch_mem th kn n r h with ⟨j, hj, rfl⟩ | ⟨j, _, rfl⟩
  · exact .inr ⟨rfl, sj j, rfl, nm_ch h0 hst hl j (by omega), by have := sj_len j; omega⟩
  · exact .inl rfl
theorem ch_plain {st : Bs} (hst : ∀ c ∈ st, 97 ≤ c ∧ c ≤ 122) (th : Nat → Bool) (kn : Bool) (n : Nat) : plainF (chR st th kn n) (st ++ [46, 111]) = [] := by
  unfold plainF
  rw [List.filter_eq_nil_iff]
  intro r h
  have hno : (37 : UInt8) ∉ st ++ [46, 111] := by
    intro h
    rcases List.mem_append.1 h with h | h
    · exact absurd (hst 37 h).1 (by decide)
    · revert h; decide
  rcases ch_mem th kn n r h with ⟨j, _, rfl⟩ | ⟨j, _, rfl⟩
  · have : ([[37, 46, 111]] : List Bs).contains (st ++ [46, 111]) = false := by
      rw [Bool.eq_false_iff]
      intro h
      have e : st ++ [46, 111] = [37, 46, 111] := by simpa using List.contains_iff_mem.1 h
      exact hno (by rw [e]; simp)
    unfold makesF patR
    rw [this]; simp
  · have : ([st ++ sj j] : List Bs).contains (st ++ [46, 111]) = false := by
      rw [Bool.eq_false_iff]
      intro h
      have e : st ++ [46, 111] = st ++ sj j := by simpa using List.contains_iff_mem.1 h
      have e := List.append_cancel_left e
      unfold sj at e
      injection e with _ e
      injection e with e _
      exact absurd e (by decide)
    unfold makesF plR
    rw [this]; simp
end Go.Proofs.YtjagnihkpgbjeaaDoor

namespace Go.Proofs.YtjagnihkpgbjeaaDoor
open Go.RowKit Go.Maps Go.ChangeMaps
set_option linter.unusedVariables false
/-! Files written and rules pushed in turn: told apart by the kinds of their blocks. -/
theorem foot_ty {w : World} {B N f : Nat} {ty : TypeId} {tl : List Value} {T : Tr} {A : Pth → Nat} {M : Pth → Option Nat} {V : Pth → Value} (h : TreeAt w B N f ty tl T A M V) {k : Nat} (hk : foot T A M V k) {arr : Array Value} {t : TypeId} {z : Nat × Nat} (hb : w.heap[k]? = some (.cells arr t z)) : t = ty ∨ t = 69 ∨ t = 5 := by
  obtain ⟨p, n, hp, e | e | e⟩ := hk
  · subst e
    have := h.blk p n hp
    rw [hb] at this
    injection this with this
    injection this with _ this _
    rw [this]
    cases p with
    | nil => exact .inl rfl
    | cons => exact .inr (.inl rfl)
  · exfalso
    have := h.kids p n hp
    rw [e] at this
    obtain ⟨nn, D, _, ⟨es, clock, q2, _⟩, _⟩ := this.yes k rfl
    rw [hb] at q2
    cases q2
  · rcases (h.data p n hp).2 with ⟨r1, _⟩ | ⟨b, cap, cur, r1, _, r3, _⟩
    · rw [r1] at e; cases e
    · rw [r1] at e
      injection e with e
      have e : b = k := e
      rw [e, hb] at r3
      injection r3 with r3
      injection r3 with _ r3 _
      exact .inr (.inr r3)
def Kept (w w' : World) : Prop := ∀ (g : Nat) (arr : Array Value) (t : TypeId) (z : Nat × Nat), t ≠ 71 → t ≠ 69 → t ≠ 5 → w.heap[g]? = some (.cells arr t z) → w'.heap[g]? = some (.cells arr t z)
theorem Write_sxk {B : Nat} {w : World} {N f : Nat} {c : Cn} {T : Tr} {s : Bz} (h : Sx B w N f c T) (hs : Nm s) (hn : T [s] = none) (hc : c.Ok) (hN : N < maxLen) (hfull : ¬ c.nodes ≤ c.count) (hroom : c.size ≤ c.bytes) :
    Calls Tryd.prog 15 #[.pointer (some ⟨f, 0, none⟩), .string (pathB s), .slice none 0 0, .bool false] w fun e w' => (e = .returned (.int .i64 0) ∧ Sx B w' (N + 1) f ⟨c.nodes, c.bytes, c.count + 1, c.size, c.clock + 1⟩ (setF T [s] (some ⟨true, [], c.clock + 1⟩)) ∧ Below B w w') ∧ Kept w w' := by
  obtain ⟨⟨F, ⟨A, M, V, h1, hf, hr⟩, h2⟩, h3⟩ := h
  have hFs : Fs w B N f c T (foot T A M V) := ⟨A, M, V, h1, fun j hj => hj, hr⟩
  refine (WriteN hFs hs hn hc hN h3 hfull hroom).mono ?_
  intro e w' hm
  refine ⟨Sx.mut hFs (fun j hj => h2 j (hf j hj)) h3 hm, fun g arr t z t1 t2 t3 hg => ?_⟩
  refine (hm.2.2.block g (Array.getElem?_eq_some_iff.1 hg).1 (fun e => ?_)).trans hg
  rcases foot_ty h1 e hg with r | r | r
  · exact t1 r
  · exact t2 r
  · exact t3 r
theorem Gr.write {B : Nat} {w0 w w' : World} {b4 : Nat} {v : Value} {L : List Rl} (h : Gr w0 w b4 v L) (hB : Below B w w') (h0 : w0.heap.size ≤ B) (hk : Kept w w') : Gr w0 w' b4 v L := by
  obtain ⟨cs, h1, h2, h3⟩ := h.own
  have hsb : ∀ (g : Nat) (arr : Array Value), w.heap[g]? = some (.cells arr 9 (0, 0)) → w'.heap[g]? = some (.cells arr 9 (0, 0)) := fun g arr hg => hk g arr 9 _ (by decide) (by decide) (by decide) hg
  refine ⟨hk b4 _ 45 _ (by decide) (by decide) (by decide) h.blk, ⟨cs, h1, ⟨h2.1, ?_⟩, fun i hi hi' => ⟨(h3 i hi hi').t.keep hsb, (h3 i hi hi').n.keep hsb, (h3 i hi hi').k.keep hsb⟩⟩, ?_, h.lt⟩
  · rcases h2.2 with hn | ⟨g, cap, cur, e, r1, r2, r⟩
    · exact .inl hn
    · exact .inr ⟨g, cap, cur, e, r1, hk g _ 48 _ (by decide) (by decide) (by decide) r2, r⟩
  · have ho : Only (fun j => B ≤ j) w w' := ⟨hB.os, hB.tape, hB.output, hB.size, fun k _ hne => hB.block k (Nat.lt_of_not_le hne)⟩
    exact h.old.trans ho (fun _ h => h) (fun i hi e => by omega)
theorem Gr.push2 {w0 w : World} {b4 : Nat} {v : Value} {L : List Rl} (h : Gr w0 w b4 v L) (m : Nat) (hm : L.length = m) (hl : m ≤ 1000) (x y z : Value) (r : Rl) (h3 : R3 w (x, y, z) r) :
    ∃ v' w3, (Builtin.append_ #[43, 43] 43 #[v, .slice (some ⟨w.heap.size, 0, none⟩) 1 1]).run Tryd.prog (w.alloc (.cells #[x, y, z] 48)) = .ok v' w3 ∧
      w3.cell? ⟨b4, 1, none⟩ = some v ∧ w3.frozen? ⟨b4, 1, none⟩ = false ∧ (∃ g c, v' = .slice (some ⟨g, 0, none⟩) (m + 1) c) ∧ Gr w0 (w3.setCell ⟨b4, 1, none⟩ v') b4 v' (L ++ [r]) ∧ Only (fun j => j = b4 ∨ v.ownBlock = some j) w (w3.setCell ⟨b4, 1, none⟩ v') := by
  subst hm
  obtain ⟨i0, hi, hz0, hz1, hz2⟩ := info_parts info48
  obtain ⟨w2, hw2⟩ : ∃ w2, w.alloc (.cells #[x, y, z] 48) = w2 := ⟨_, rfl⟩
  have hw0 : Below w.heap.size w w2 := hw2 ▸ below_alloc _ _
  have hs2 : w2.heap.size = w.heap.size + 1 := by rw [← hw2, size_alloc]
  have hn2 : w2.heap[w.heap.size]? = some (.cells #[x, y, z] 48 (0, 0)) := hw2 ▸ heap_alloc_new w _
  rw [hw2]
  have h2' := h.below hw0
  obtain ⟨cs, hcl, hown, hr⟩ := h2'.own
  have hsw := h.old.size
  obtain ⟨v', w3, e1, e2, e3, e4⟩ := run_append_own (P := Tryd.prog) w2 w0.heap.size 43 43 48 i0 _ 3 72 Tryd.underlying43 hi hz0 hz1 hz2 rfl (by decide) v L.length (tri cs) hown ⟨w.heap.size, 0, none⟩ 1 1 [x, y, z] rfl
    (fun j u hj => by
      rw [addk, Nat.zero_add]
      simp only [World.cell?, hn2]
      simpa using hj) (by
      intro u hu
      simp only [List.mem_cons, List.not_mem_nil, or_false] at hu
      rcases hu with rfl | rfl | rfl
      · exact oneCell_sl h3.t.sl
      · exact oneCell_sl h3.n.sl
      · exact oneCell_sl h3.k.sl) (by unfold maxLen; omega) (by omega) (by omega)
  have hty : ∀ (g : Nat) (arr : Array Value) (t : TypeId), t ≠ 48 → w2.heap[g]? = some (.cells arr t (0, 0)) → v.ownBlock ≠ some g := fun g arr t ht hg e => by
    rcases hown.2 with ⟨r1, _⟩ | ⟨b, cap, cur, r1, _, r3, _⟩
    · rw [r1] at e; cases e
    · rw [r1] at e
      injection e with e
      have e : b = g := e
      rw [e, hg] at r3
      injection r3 with r3
      injection r3 with _ r3 _
      exact ht r3
  have hb2 := h2'.blk
  have hkeep : ∀ (g : Nat) (arr : Array Value) (t : TypeId), t ≠ 48 → w2.heap[g]? = some (.cells arr t (0, 0)) → w3.heap[g]? = some (.cells arr t (0, 0)) := fun g arr t ht hg =>
    (e3.block g (Array.getElem?_eq_some_iff.1 hg).1 (fun e => hty g arr t ht hg e.symm)).trans hg
  have hb3 := hkeep b4 _ 45 (by decide) hb2
  have hkeep2 : ∀ (g : Nat) (arr : Array Value), w2.heap[g]? = some (.cells arr 9 (0, 0)) → (w3.setCell ⟨b4, 1, none⟩ v').heap[g]? = some (.cells arr 9 (0, 0)) := fun g arr hg => by
    have h3 := hkeep g arr 9 (by decide) hg
    have hne : g ≠ b4 := by
      intro e
      rw [e, hb3] at h3
      injection h3 with h3
      injection h3 with _ h3 _
      cases h3
    rw [Below.heap_setCell _ _ _ _ (by show g ≠ b4; exact hne)]; exact h3
  have h3w : R3 w2 (x, y, z) r := ⟨h3.t.below hw0, h3.n.below hw0, h3.k.below hw0⟩
  obtain ⟨g9, c9, hv9, _⟩ := e2.form (by omega)
  have hGr : Gr w0 (w3.setCell ⟨b4, 1, none⟩ v') b4 v' (L ++ [r]) := by
    refine ⟨set_of hb3 1 v', ⟨cs ++ [(x, y, z)], by simp [hcl], ?_, fun i hi' hi2 => ?_⟩, ?_, h.lt⟩
    · rw [tri_app, List.length_append]
      exact own_onlyS (F := fun j => j = b4) e2 ((Only.refl (fun j => j = b4) w3).set (.inl rfl) 1 v') (fun g hg e => by
        have := (e2.lt g hg).1
        have := h.lt
        omega)
    · by_cases e : i < cs.length
      · have hiL : i < L.length := by omega
        have := hr i hiL e
        rw [List.getElem_append_left e, List.getElem_append_left hiL]
        exact ⟨this.t.keep hkeep2, this.n.keep hkeep2, this.k.keep hkeep2⟩
      · have e2 : i = cs.length := by simp at hi2; omega
        subst e2
        rw [List.getElem_append_right (Nat.le_refl _), List.getElem_append_right (by omega)]
        simp only [hcl, Nat.sub_self, List.getElem_singleton]
        exact ⟨h3w.t.keep hkeep2, h3w.n.keep hkeep2, h3w.k.keep hkeep2⟩
    · refine ((h2'.old).trans (Only.of_grown (S := fun i => v.ownBlock = some i) e3 (fun k hk => hk)) (fun _ h => h) (fun i hi e => ?_)).set (.inl rfl) 1 v'
      have := (hown.lt i e).1
      omega
  exact ⟨v', w3, e1, cell_of hb3 1, free_of hb3 1, ⟨g9, c9, hv9⟩, hGr, ((Only.of_below (S := fun j => j = b4 ∨ v.ownBlock = some j) hw0).trans (Only.of_grown (S := fun i => v.ownBlock = some i) e3 (fun k hk => hk)) (fun _ h => h) (fun _ _ h => .inr h)).set (.inl (.inl rfl)) 1 v'⟩
theorem Sx.push {B : Nat} {w w' : World} {N f : Nat} {c : Cn} {T : Tr} {w0 : World} {b4 : Nat} {v : Value} {L : List Rl} (h : Sx B w N f c T) (hg : Gr w0 w b4 v L) (ho : Only (fun j => j = b4 ∨ v.ownBlock = some j) w w') : Sx B w' N f c T := by
  obtain ⟨⟨F, ⟨A, M, V, h1, hf, hr⟩, h2⟩, h3⟩ := h
  obtain ⟨cs, _, how, _⟩ := hg.own
  refine ⟨⟨foot T A M V, ⟨A, M, V, h1.only ho (fun k hk hft => ?_), fun j hj => hj, hr⟩, fun j hj => ⟨(h2 j (hf j hj)).1, Nat.lt_of_lt_of_le (h2 j (hf j hj)).2 ho.size⟩⟩, Nat.le_trans h3 ho.size⟩
  rcases hk with rfl | hk
  · rcases foot_ty h1 hft hg.blk with r | r | r <;> cases r
  · rcases how.2 with ⟨r1, _⟩ | ⟨b, cap, cur, r1, _, r3, _⟩
    · rw [r1] at hk; cases hk
    · rw [r1] at hk
      injection hk with hk
      have hk : b = k := hk
      rw [hk] at r3
      rcases foot_ty h1 hft r3 with r | r | r <;> cases r
end Go.Proofs.YtjagnihkpgbjeaaDoor
