import Derived.Test.YtjagnihkpgbjeaaDoorJD
namespace Go.Proofs.YtjagnihkpgbjeaaDoor
open Go.RowKit Go.Maps Go.ChangeMaps
set_option linter.unusedVariables false
/-! Plan where plain rules alone count: told by what run comes to. -/
def RunNone (w : World) (f : Nat) (cwd tg : ByteArray) (ms v : Value) : Prop := ∀ (sb : Nat) (w' : World), Below w.heap.size w w' → sb < w'.heap.size → w'.cell? ⟨sb, 0, none⟩ = some ms → w'.cell? ⟨sb, 1, none⟩ = some v → w'.cell? ⟨sb, 2, none⟩ = some (.pointer (some ⟨f, 0, none⟩)) → w'.cell? ⟨sb, 3, none⟩ = some (.string cwd) → w'.cell? ⟨sb, 4, none⟩ = some (.string tg) →
  Calls Tryd.prog 53 #[.pointer (some ⟨sb, 0, none⟩)] w' fun e w'' => e = .returned (.tuple #[.agg #[.slice none 0 0, .slice none 0 0, .string ⟨#[]⟩, .bool false], .bool false]) ∧ Below w'.heap.size w' w''
set_option maxRecDepth 100000 in
set_option maxHeartbeats 8000000 in
theorem Plan_gen (f : Nat) (cwd tg : ByteArray) (ms v : Value) (rs : List Rl) (w : World) (hv : RsV w v rs) (hl : rs.length ≤ 1000) (hfew : ∀ r ∈ rs, r.ns.length ≤ 100) (htg : tg.data.toList.head? ≠ some 46) (hms : ∃ a n c, ms = .slice a n c)
    (hrc : (planL (plainF rs tg.data.toList)).rc ≠ [] ∨ RunNone w f cwd tg ms v) :
    Calls Tryd.prog 27 #[.agg #[ms, v], .pointer (some ⟨f, 0, none⟩), .string cwd, .string tg] w (PlanP (planL (plainF rs tg.data.toList)) w) := by
  obtain ⟨am, nm, cm, rfl⟩ := hms
  obtain ⟨xl, hxl⟩ : ∃ xl, tg.data.toList = xl := ⟨_, rfl⟩
  have HSP := Lib.hid (fun w => special_no tg w htg)
  have HPL := Lib.hid (fun (w' : World) (hb : Below w.heap.size w w') => plain_any (.slice am nm cm) v rs tg w w' hv hb hl)
  unfold PlainP at HPL
  rw [hxl] at hrc HPL ⊢
  have HLP := Lib.hid (Nat.le_trans (plain_len rs xl) hl)
  have HFW : Hid (∀ r ∈ plainF rs xl, r.ns.length ≤ 100) := fun r hr => hfew r (List.mem_filter.1 hr).1
  obtain ⟨P, hP⟩ : ∃ P, plainF rs xl = P := ⟨_, rfl⟩
  rw [hP] at hrc HPL HLP HFW ⊢
  have HRC := Lib.hid hrc
  obtain ⟨Q, hQ⟩ : ∃ Q, PlanP (planL P) w = Q := ⟨_, rfl⟩
  rw [hQ]
  have HQ := Lib.hid hQ
  obtain ⟨a, n0, c, rfl⟩ : ∃ a n c, v = .slice a n c := by obtain ⟨a, c, rfl⟩ := hv.len; exact ⟨_, _, _, rfl⟩
  obtain ⟨W0, hW0⟩ : ∃ W0, ((w.alloc (.cells #[.slice am nm cm, .slice a n0 c] 45)).alloc (.cells #[.slice none 0 0, .slice none 0 0, .string ⟨#[]⟩, .bool false] 50)).alloc (.cells #[.slice none 0 0, .slice none 0 0, .string ⟨#[]⟩, .bool false] 50) = W0 := ⟨_, rfl⟩
  have HW0 := Lib.hid hW0
  clear hv hfew htg hrc hxl hP hQ hl hW0
  go_enter Tryd.func27, Tryd.ntmps27
  go_wp2_with (go_at_call 50; refine (HSP.out _).mono ?_; rintro e w1 ⟨rfl, h1⟩; obtain rfl := h1.symm; simp only [])
  go_wp2_with fail
  rw [HW0.out]
  have hB0 : Below w.heap.size w W0 := by
    rw [← HW0.out]
    exact below_trans (below_alloc _ _) (below_trans (below_alloc _ _) (below_alloc _ _))
  have hs0 : W0.heap.size = w.heap.size + 1 + 1 + 1 := by rw [← HW0.out, size_alloc, size_alloc, size_alloc]
  have z9 : W0.heap[w.heap.size + 1 + 1]? = some (.cells [.slice none 0 0, .slice none 0 0, .string ⟨#[]⟩, .bool false].toArray 50 (0, 0)) := by
    rw [← HW0.out]
    have := heap_alloc_new ((w.alloc (.cells #[.slice am nm cm, .slice a n0 c] 45)).alloc (.cells #[.slice none 0 0, .slice none 0 0, .string ⟨#[]⟩, .bool false] 50)) (.cells #[.slice none 0 0, .slice none 0 0, .string ⟨#[]⟩, .bool false] 50)
    rw [size_alloc, size_alloc] at this
    exact this
  have z8 : W0.heap[w.heap.size + 1]? = some (.cells [.slice none 0 0, .slice none 0 0, .string ⟨#[]⟩, .bool false].toArray 50 (0, 0)) := by
    rw [← HW0.out, Below.heap_alloc _ _ _ (by rw [size_alloc, size_alloc]; omega)]
    have := heap_alloc_new (w.alloc (.cells #[.slice am nm cm, .slice a n0 c] 45)) (.cells #[.slice none 0 0, .slice none 0 0, .string ⟨#[]⟩, .bool false] 50)
    rw [size_alloc] at this
    exact this
  have z4 : W0.heap[w.heap.size]? = some (.cells #[.slice am nm cm, .slice a n0 c] 45) := by
    rw [← HW0.out, Below.heap_alloc _ _ _ (by rw [size_alloc, size_alloc]; omega), Below.heap_alloc _ _ _ (by rw [size_alloc]; omega)]
    exact heap_alloc_new w _
  have HB0 := Lib.hid hB0
  have HS0 := Lib.hid hs0
  have HZ9 := Lib.hid z9
  have HZ8 := Lib.hid z8
  have HZ4 := Lib.hid z4
  clear hB0 hs0 z9 z8 z4
  refine (HPL.out _ HB0.out).mono ?_
  rintro e w1 ⟨u, rfl, h1⟩
  have H1 := Lib.hid h1
  obtain ⟨ua, uc, hu⟩ := (h1.rsv HB0.out).len
  rw [hu] at H1 ⊢
  clear h1 hu
  obtain ⟨n, hn⟩ : ∃ n, P.length = n := ⟨_, rfl⟩
  rw [hn] at HLP H1
  simp only [hn]
  have HN := Lib.hid hn
  have hnl : n ≤ 1000 := HLP.out
  obtain ⟨b9, hb9⟩ : ∃ b9, w.heap.size + 1 + 1 = b9 := ⟨_, rfl⟩
  rw [hb9] at HZ9
  have HB9 : Hid (b9 < W0.heap.size) := by have := HS0.out; rw [Hid]; omega
  have HB91 : Hid (b9 < w1.heap.size) := Nat.lt_of_lt_of_le HB9.out H1.out.old.size
  have HPR0 : Hid (PR w w1 w1 b9 ⟨[], [], false⟩) := ⟨⟨none, 0, 0, none, 0, 0, (H1.out.old.block _ HB9.out).trans HZ9.out, World.ownsRow_nil _ _ _ _, sl0 _⟩, Only.refl _ _, by simp⟩
  clear hn
  simp only [hb9]
  go_wp2_with fail
  go_loopw [22] (fun i wr => ∃ k : Nat, k ≤ n ∧ i = .int .i64 k ∧ Hid (PR w w1 wr b9 (planL (P.take k)))) (fun i _ => n - (intOf i).toNat)
  case atStart => exact ⟨0, Nat.zero_le _, rfl, HPR0.out⟩
  case round =>
    clear HPR0
    obtain ⟨k, hk, rfl, HX⟩ := hrel
    by_cases hlt : k < n
    · have hltI : (k : Int) < (n : Int) := by omega
      have h0 : (0 : Int) ≤ (k : Int) := by omega
      have hlr : k < P.length := by rw [HN.out]; exact hlt
      obtain ⟨g, a0, n0, c0, a1, n1, c1, a2, n2, c2, rfl, q0, q1, q2, hr⟩ := H1.out.get3 HX.out.oth (fun j hj => hj ▸ HB9.out) k hlr
      have hadd : (⟨g, 0, none⟩ : Addr).add (k * 3) = ⟨g, k * 3, none⟩ := by rw [addk, Nat.zero_add]
      obtain ⟨x0, xn0, xc0, x1, xn1, xc1, hblk, hown, hrv⟩ := HX.out.blk
      have hba := below_alloc wr (.cells #[.slice a0 n0 c0, .slice a1 n1 c1, .slice a2 n2 c2] 48)
      obtain ⟨z0, z1, z2, z3, y0, y1, y2, y3⟩ := box50 ((hba.block _ (Array.getElem?_eq_some_iff.1 hblk).1).trans hblk)
      have hne : b9 ≠ wr.heap.size := by have := (Array.getElem?_eq_some_iff.1 hblk).1; omega
      have hne' : wr.heap.size ≠ b9 := fun e => hne e.symm
      have hno : wr.heap.size ≠ b9 := fun e => hne e.symm
      have HBW1 : Hid (Below w.heap.size w w1) := HB0.out.trans (H1.out.old.mono HB0.out.size)
      have hwb9 : w.heap.size ≤ b9 := by omega
      have h15 := HX.out.pre HB91.out (.cells #[.slice a0 n0 c0, .slice a1 n1 c1, .slice a2 n2 c2] 48)
      have h25 : Only (fun j => j = b9) wr ((wr.alloc (.cells #[.slice a0 n0 c0, .slice a1 n1 c1, .slice a2 n2 c2] 48)).setCell ⟨b9, 3, none⟩ (.bool true)) := (Only.of_below (S := fun j => j = b9) hba).set (.inl rfl) 3 _
      have hblk5 := set_of ((hba.block _ (Array.getElem?_eq_some_iff.1 hblk).1).trans hblk) 3 (.bool true)
      have hbox5 : ((wr.alloc (.cells #[.slice a0 n0 c0, .slice a1 n1 c1, .slice a2 n2 c2] 48)).setCell ⟨b9, 3, none⟩ (.bool true)).heap[wr.heap.size]? = some (.cells [.slice a0 n0 c0, .slice a1 n1 c1, .slice a2 n2 c2].toArray 48 (0, 0)) := by
        rw [Below.heap_setCell _ _ _ _ (by show wr.heap.size ≠ b9; exact hno)]; exact heap_alloc_new wr _
      obtain ⟨W5, hW5⟩ : ∃ W5, (wr.alloc (.cells #[.slice a0 n0 c0, .slice a1 n1 c1, .slice a2 n2 c2] 48)).setCell ⟨b9, 3, none⟩ (.bool true) = W5 := ⟨_, rfl⟩
      rw [hW5] at h15 h25 hblk5 hbox5
      have hs5 : wr.heap.size < W5.heap.size := (Array.getElem?_eq_some_iff.1 hbox5).1
      have hown5 := own_onlyX hown h25 (fun j hj => hj ▸ HB91.out)
      have hSge : ∀ j, Value.ownBlock (.slice x0 xn0 xc0) = some j → w1.heap.size ≤ j ∧ j < wr.heap.size := fun j hj => hown.lt j hj
      have hB15 : Below w.heap.size w W5 := HBW1.out.trans (h15.below (fun k hk => by subst hk; exact hwb9) HBW1.out.size)
      have hns := HFW.out P[k] (List.getElem_mem hlr)
      have HPN : Hid ((planL (P.take k)).ns.length ≤ 200000) := by
        have := planL_ns (P.take k) ⟨[], [], false⟩ (fun r hr => HFW.out r (List.mem_of_mem_take hr))
        have e2 : (P.take k).length ≤ 1000 := by simp; omega
        refine Nat.le_trans this ?_
        show 0 + _ ≤ _
        omega
      have HADD := Lib.hid (addS_any w1.heap.size (fun j => Value.ownBlock (.slice x0 xn0 xc0) = some j) (.slice x0 xn0 xc0) (.slice a1 n1 c1) _ P[k].ns W5 h15.size hown5 (fun _ h => h) (fun w' ho => hr.n.below (hB15.trans (ho.below (fun k hk => Nat.le_trans HBW1.out.size (hSge k hk).1) hB15.size))) (by have := HPN.out; omega))
      have HT := Lib.hid (planL_take P k hlr)
      have HAFT := Lib.hid (fun (w6 : World) (v' : Value) (h : AddSR w1.heap.size (fun j => Value.ownBlock (.slice x0 xn0 xc0) = some j) W5 w6 v' (addF (planL (P.take k)).ns P[k].ns)) => (show w6.heap[b9]? = some (.cells [.slice x0 xn0 xc0, .slice x1 xn1 xc1, .string ⟨#[]⟩, .bool true].toArray 50 (0, 0)) ∧ w6.heap[wr.heap.size]? = some (.cells [.slice a0 n0 c0, .slice a1 n1 c1, .slice a2 n2 c2].toArray 48 (0, 0)) ∧ Only (fun j => j = b9) w1 w6 from
        ⟨(h.oth.block b9 (Array.getElem?_eq_some_iff.1 hblk5).1 (fun e => by have := (hSge b9 e).1; have := HB91.out; omega)).trans hblk5,
         (h.oth.block wr.heap.size hs5 (fun e => by have := (hSge _ e).2; omega)).trans hbox5,
         h15.trans h.oth (fun _ h => h) (fun i hi e => by have := (hSge i e).1; omega)⟩))
      have HR3 := Lib.hid hr
      have HRV := Lib.hid hrv
      have HW5 := Lib.hid hW5
      obtain ⟨rn, hrn⟩ : ∃ rn, P[k].rc.length = rn := ⟨_, rfl⟩
      have hn2 : n2 = rn := by
        obtain ⟨a', c', e⟩ := hr.k.len
        rw [hrn] at e
        injection e
      subst hn2
      have HRNN := Lib.hid hrn
      clear hr hrv hown hown5 hSge hB15 h15 h25 hblk hblk5 hbox5 hs5 hba hns hrn
      by_cases hr0 : n2 = 0
      · subst hr0
        have HN3 : Hid (planL (P.take (k + 1)) = ⟨addF (planL (P.take k)).ns P[k].ns, (planL (P.take k)).rc, true⟩) := by rw [Hid, HT.out, if_pos (List.eq_nil_of_length_eq_zero HRNN.out)]
        clear hW5
        go_wp2_with fail
        rw [HW5.out]
        refine HADD.out.mono ?_
        rintro e w6 ⟨v', rfl, ha⟩
        obtain ⟨f1, f2, f3⟩ := HAFT.out w6 v' ha
        obtain ⟨e0, e1, e2, e3, i0, i1, i2, i3⟩ := box50 f1
        have j2 : w6.cell? ⟨wr.heap.size, 2, none⟩ = some (.slice a2 0 c2) := cell_of f2 2
        have HA := Lib.hid ha
        have HF1 := Lib.hid f1
        have HF3 := Lib.hid f3
        obtain ⟨va, vn, vc, rfl⟩ := sl_form (SlS.own ha.own)
        clear ha f1 f2 f3
        simp only []
        go_wp2_with fail
        refine ⟨⟨k + 1, by omega, by go_num, ?_⟩, by simp [intOf]; omega⟩
        rw [HN3.out]
        exact ⟨⟨va, vn, vc, x1, xn1, xc1, set_of HF1.out 0 _, own_onlyX HA.out.own ((Only.refl (fun j => j = b9) w6).set (.inl rfl) 0 _) (fun j hj => hj ▸ HB91.out), HRV.out⟩, HF3.out.set (.inl rfl) 0 _, HX.out.lk⟩
      · have hr1 : 0 < n2 := by omega
        have hr1I : (0 : Int) < (n2 : Int) := by omega
        have HN3 : Hid (planL (P.take (k + 1)) = ⟨addF (planL (P.take k)).ns P[k].ns, P[k].rc, true⟩) := by rw [Hid, HT.out, if_neg (fun e => by have := HRNN.out; rw [e] at this; simp at this; omega)]
        clear hW5
        go_wp2_with fail
        rw [HW5.out]
        refine HADD.out.mono ?_
        rintro e w6 ⟨v', rfl, ha⟩
        obtain ⟨f1, f2, f3⟩ := HAFT.out w6 v' ha
        obtain ⟨e0, e1, e2, e3, i0, i1, i2, i3⟩ := box50 f1
        have j2 : w6.cell? ⟨wr.heap.size, 2, none⟩ = some (.slice a2 n2 c2) := cell_of f2 2
        have HA := Lib.hid ha
        have HF1 := Lib.hid f1
        have HF3 := Lib.hid f3
        obtain ⟨va, vn, vc, rfl⟩ := sl_form (SlS.own ha.own)
        clear ha f1 f2 f3
        simp only []
        go_wp2_with fail
        refine ⟨⟨k + 1, by omega, by go_num, ?_⟩, by simp [intOf]; omega⟩
        rw [HN3.out]
        exact ⟨⟨va, vn, vc, a2, n2, c2, set_of (set_of HF1.out 0 _) 1 _, own_onlyX HA.out.own (((Only.refl (fun j => j = b9) w6).set (.inl rfl) 0 _).set (.inl rfl) 1 _) (fun j hj => hj ▸ HB91.out), HR3.out.k⟩, (HF3.out.set (.inl rfl) 0 _).set (.inl rfl) 1 _, HR3.out.lk⟩
    · have hltI : ¬ (k : Int) < (n : Int) := by omega
      have hP : P.take k = P := List.take_of_length_le (by rw [HN.out]; omega)
      have HX2 : Hid (PR w w1 wr b9 (planL P)) := by have := HX.out; rw [hP] at this; exact this
      obtain ⟨x0, xn0, xc0, x1, xn1, xc1, hblk, hown, hrv⟩ := HX2.out.blk
      have HBLK := Lib.hid hblk
      have HOWN := Lib.hid hown
      have HRV := Lib.hid hrv
      have hoth := HX2.out.oth
      have hs1 := H1.out.old.size
      have hs0 := HS0.out
      have hlt9 := HB91.out
      have hz4 : wr.heap[w.heap.size]? = some (.cells [.slice am nm cm, .slice a n0 c].toArray 45 (0, 0)) := (hoth.block _ (by omega) (by omega)).trans ((H1.out.old.block _ (by omega)).trans HZ4.out)
      have hz8 : wr.heap[w.heap.size + 1]? = some (.cells [.slice none 0 0, .slice none 0 0, .string ⟨#[]⟩, .bool false].toArray 50 (0, 0)) := (hoth.block _ (by omega) (by omega)).trans ((H1.out.old.block _ (by omega)).trans HZ8.out)
      have HZ4' := Lib.hid hz4
      have HZ8' := Lib.hid hz8
      have hBW : Below w.heap.size w wr := (HB0.out.trans (H1.out.old.mono HB0.out.size)).trans (hoth.below (fun k hk => by subst hk; omega) (by omega))
      have HBW := Lib.hid hBW
      have HCL := Lib.hid (fun (w' : World) (hb : Below w.heap.size w w') => Clone_any (.slice x1 xn1 xc1) (planL P).rc w' (hrv.below hb) (by have := HX2.out.lk; omega))
      have hsz9 : b9 < wr.heap.size := (Array.getElem?_eq_some_iff.1 hblk).1
      have HFIN := Lib.hid (fun (w7 : World) (v' : Value) (hb : Below wr.heap.size wr w7) (hv : SlS w7 v' (planL P).rc) => plan_fin (P := P) hown hblk hz8 HBW.out (show w.heap.size + 1 < b9 by omega) (show w.heap.size + 1 ≠ b9 by omega) hlt9 (by omega) hoth hb hv)
      have hxl : xn1 = (planL P).rc.length := by obtain ⟨a', c', e⟩ := hrv.len; injection e
      obtain ⟨pr, hpr⟩ : ∃ pr, (planL P).rule = pr := ⟨_, rfl⟩
      rw [hpr] at HBLK HFIN
      obtain ⟨b8, hb8⟩ : ∃ b8, w.heap.size + 1 = b8 := ⟨_, rfl⟩
      rw [hb8] at HZ8' HFIN
      have hne89 : b8 ≠ b9 := by omega
      have hne98 : b9 ≠ b8 := fun e => hne89 e.symm
      have hsz8 : b8 < wr.heap.size := by omega
      obtain ⟨k0, k1, k2, k3, i0, i1, i2, i3⟩ := box50 HBLK.out
      have HWR0 : Hid (Below wr.heap.size wr wr) := Below.refl _ _
      by_cases hrl : xn1 = 0
      · subst hrl
        have hnil : RunNone w f cwd tg (.slice am nm cm) (.slice a n0 c) := by
          rcases HRC.out with h | h
          · exact absurd (List.eq_nil_of_length_eq_zero hxl.symm) h
          · exact h
        have HNIL := Lib.hid hnil
        clear hnil
        have p0 : wr.cell? ⟨w.heap.size, 0, none⟩ = some (.slice am nm cm) := cell_of HZ4'.out 0
        have p1 : wr.cell? ⟨w.heap.size, 1, none⟩ = some (.slice a n0 c) := cell_of HZ4'.out 1
        clear hblk hown hrv hoth hs1 hs0 hz4 hz8 hBW hxl hP
        have HA9 := Lib.hid (below_alloc wr (.cells #[.slice am nm cm, .slice a n0 c, .pointer (some ⟨f, 0, none⟩), .string cwd, .string tg] 91))
        go_wp2_with (first
          | (go_at_call 53; refine (HNIL.out wr.heap.size _ (HBW.out.trans (HA9.out.mono HBW.out.size)) (by rw [size_alloc]; omega) (by rw [cell_new]; rfl) (by rw [cell_new]; rfl) (by rw [cell_new]; rfl) (by rw [cell_new]; rfl) (by rw [cell_new]; rfl)).mono ?_; rintro e w5 ⟨rfl, h5⟩; have HWR : Hid (Below wr.heap.size wr (w5.alloc (.cells #[.slice none 0 0, .slice none 0 0, .string ⟨#[]⟩, .bool false] 50))) := below_trans HA9.out (below_trans h5 (below_alloc _ _)); have HBASE : Hid (Below w.heap.size w (w5.alloc (.cells #[.slice none 0 0, .slice none 0 0, .string ⟨#[]⟩, .bool false] 50))) := HBW.out.trans (HWR.out.mono HBW.out.size); obtain ⟨k0, k1, k2, k3, i0, i1, i2, i3⟩ := box50 ((HWR.out.block _ hsz9).trans HBLK.out); clear h5; simp only [])
          | (go_at_call 54; refine (HCL.out _ HBASE.out).mono ?_; rintro e w7 ⟨v', rfl, h7⟩; obtain ⟨g9, g8, gf⟩ := HFIN.out w7 v' (HWR.out.trans (h7.old.mono HWR.out.size)) h7.sls; obtain ⟨k0, k1, k2, k3, i0, i1, i2, i3⟩ := box50 g9; obtain ⟨l0, l1, l2, l3, j0, j1, j2, j3⟩ := box50 g8; obtain ⟨va, vn, vc, rfl⟩ := sl_form h7.sls; have HPF := Lib.hid (gf (fun g hg => by have := (h7.own.lt g hg).1; have := HWR.out.size; exact ⟨by omega, by omega⟩)); clear h7 g9 g8 gf; simp only []))
        rw [← HQ.out]
        have hf := HPF.out.blk
        refine bodyPost_ret (v := .agg #[.slice x0 xn0 xc0, .slice va vn vc, .string ⟨#[]⟩, .bool pr]) ?_ rfl ?_
        · obtain ⟨k0, k1, k2, k3, _⟩ := box50 hf
          simp [results, Tryd.results27, go_sem, k0, k1, k2, k3]
          try rfl
        · exact ⟨_, _, by rw [hpr], HPF.out.n, HPF.out.r, HPF.out.old, HPF.out.nb⟩
      · have hrl1 : ((xn1 : Int) == 0) = false := by simpa using hrl
        have HWR := HWR0
        have HBASE := HBW
        clear hblk hown hrv hoth hs1 hs0 hz4 hz8 hBW hxl hP HWR0
        go_wp2_with (go_at_call 54; refine (HCL.out _ HBASE.out).mono ?_; rintro e w7 ⟨v', rfl, h7⟩; obtain ⟨g9, g8, gf⟩ := HFIN.out w7 v' (HWR.out.trans (h7.old.mono HWR.out.size)) h7.sls; obtain ⟨k0, k1, k2, k3, i0, i1, i2, i3⟩ := box50 g9; obtain ⟨l0, l1, l2, l3, j0, j1, j2, j3⟩ := box50 g8; obtain ⟨va, vn, vc, rfl⟩ := sl_form h7.sls; have HPF := Lib.hid (gf (fun g hg => by have := (h7.own.lt g hg).1; have := HWR.out.size; exact ⟨by omega, by omega⟩)); clear h7 g9 g8 gf; simp only [])
        rw [← HQ.out]
        have hf := HPF.out.blk
        refine bodyPost_ret (v := .agg #[.slice x0 xn0 xc0, .slice va vn vc, .string ⟨#[]⟩, .bool pr]) ?_ rfl ?_
        · obtain ⟨k0, k1, k2, k3, _⟩ := box50 hf
          simp [results, Tryd.results27, go_sem, k0, k1, k2, k3]
          try rfl
        · exact ⟨_, _, by rw [hpr], HPF.out.n, HPF.out.r, HPF.out.old, HPF.out.nb⟩
theorem Plan_miss {w : World} {B N f : Nat} {c : Cn} {T : Tr} {F : Nat → Prop} (hF : Fs w B N f c T F) (hm : Hm w) (ms v : Value) (rs : List Rl) (st back : Bs) (hv : RsV w v rs) (hl : rs.length ≤ 1000) (hfew : ∀ r ∈ rs, r.ns.length ≤ 100) (hrc : ∀ r ∈ rs, r.rc = [] ∨ PatOk st back r) (hst : st ≠ []) (hl1 : st.length + back.length ≤ 10000) (hms : ∃ a n c, ms = .slice a n c)
    (htg : (st ++ back).head? ≠ some 46) (hmiss : rs.find? (fitF T rs st) = none) :
    Calls Tryd.prog 27 #[.agg #[ms, v], .pointer (some ⟨f, 0, none⟩), .string ⟨#[47]⟩, .string (nameB (st ++ back))] w (PlanP (planL (plainF rs (st ++ back))) w) := by
  have := Plan_gen f ⟨#[47]⟩ (nameB (st ++ back)) ms v rs w hv hl hfew (by rw [nameB_list]; exact htg) hms (.inr (fun sb w' hb hlt q0 q1 q2 q3 q4 => by
    have := run_pats (hF.below hb) (hm.below hb) sb ms v rs st back w hb hv hl hrc hst hl1 hlt q0 q1 q2 q3 q4 hms
    rw [hmiss] at this
    refine this.mono ?_
    rintro e w'' ⟨nv, rv, h1, _, _, h4, _, h6⟩
    obtain ⟨rfl, rfl⟩ := h6 rfl
    exact ⟨h1, h4⟩))
  rw [nameB_list] at this
  exact this
end Go.Proofs.YtjagnihkpgbjeaaDoor

namespace Go.Proofs.YtjagnihkpgbjeaaDoor
open Go.RowKit Go.Maps Go.ChangeMaps
set_option linter.unusedVariables false
/-! FindChains: the rules, the files, what fits. -/
def sj (j : Nat) : Bs := 46 :: 115 :: dg j
def patR (j : Nat) : Rl := ⟨[[37, 46, 111]], [37 :: sj j], [114 :: sj j]⟩
def plR (st : Bs) (j : Nat) : Rl := ⟨[st ++ sj j], [], []⟩
def addR (st : Bs) (b : Bool) (i : Nat) : List Rl := if b then [plR st i] else []
def chR (st : Bs) (th : Nat → Bool) (kn : Bool) : Nat → List Rl
  | 0 => []
  | i + 1 => chR st th kn i ++ patR i :: addR st (th i && kn) i
/-- How many files are written; the tree behind the first i rounds. -/
def chN (th : Nat → Bool) (kn : Bool) : Nat → Nat
  | 0 => 0
  | i + 1 => if th i && !kn then chN th kn i + 1 else chN th kn i
def chT (st : Bs) (th : Nat → Bool) (kn : Bool) : Nat → Tr
  | 0 => newT
  | i + 1 => if th i && !kn then setF (chT st th kn i) [st ++ sj i] (some ⟨true, [], (chN th kn i : Int) + 1⟩) else chT st th kn i
theorem dg_inj : ∀ i j : Fin 10, dg i.val = dg j.val → i = j := by decide
theorem sj_inj (st : Bs) {i j : Nat} (hi : i < 10) (hj : j < 10) (h : st ++ sj i = st ++ sj j) : i = j := by
  have h := List.append_cancel_left h
  unfold sj at h
  injection h with _ h
  injection h with _ h
  have := dg_inj ⟨i, hi⟩ ⟨j, hj⟩ h
  injection this
theorem chT_at (st : Bs) (th : Nat → Bool) (kn : Bool) (j : Nat) (hj : j < 10) : ∀ n, n ≤ 10 → kdF (chT st th kn n) (st ++ sj j) = if decide (j < n) && (th j && !kn) then 1 else 0
  | 0, _ => by simp [chT]; rfl
  | n + 1, hn => by
    have ih := chT_at st th kn j hj n (by omega)
    unfold chT
    by_cases h : (th n && !kn) = true
    · rw [if_pos h]
      by_cases e : j = n
      · subst e
        rw [h]
        unfold kdF setF
        rw [if_pos rfl]
        simp
      · have hne : ([st ++ sj j] : Pth) ≠ [st ++ sj n] := fun e2 => e (sj_inj st hj (by omega) (by injection e2))
        have : kdF (setF (chT st th kn n) [st ++ sj n] (some ⟨true, [], (chN th kn n : Int) + 1⟩)) (st ++ sj j) = kdF (chT st th kn n) (st ++ sj j) := by
          unfold kdF setF
          rw [if_neg hne]
        rw [this, ih]
        have e2 : decide (j < n + 1) = decide (j < n) := by by_cases h2 : j < n <;> simp [h2] <;> omega
        rw [e2]
    · rw [if_neg h, ih]
      by_cases e : j = n
      · subst e
        have h : (th j && !kn) = false := by simpa using h
        rw [h]; simp
      · have e2 : decide (j < n + 1) = decide (j < n) := by by_cases h2 : j < n <;> simp [h2] <;> omega
        rw [e2]
theorem no37 {st : Bs} (hst : ∀ c ∈ st, 97 ≤ c ∧ c ≤ 122) (j : Nat) (hj : j < 10) : (37 : UInt8) ∉ st ++ sj j := by
  intro h
  rcases List.mem_append.1 h with h | h
  · have := (hst 37 h).1
    exact absurd this (by decide)
  · revert h
    have : ∀ j : Fin 10, (37 : UInt8) ∉ sj j.val := by decide
    exact this ⟨j, hj⟩
theorem knownF_app (a b : List Rl) (x : Bs) : knownF (a ++ b) x = (knownF a x || knownF b x) := by unfold knownF; rw [List.any_append]
theorem makes_pat {st : Bs} (hst : ∀ c ∈ st, 97 ≤ c ∧ c ≤ 122) (i j : Nat) (hj : j < 10) : makesF (patR i) (st ++ sj j) = false := by
  have h : ([[37, 46, 111]] : List Bs).contains (st ++ sj j) = false := by
    rw [Bool.eq_false_iff]
    intro h
    have := List.contains_iff_mem.1 h
    have e : st ++ sj j = [37, 46, 111] := by simpa using this
    exact no37 hst j hj (by rw [e]; simp)
  unfold makesF patR
  rw [h]; rfl
theorem indexByte_no : ∀ {l : List UInt8}, (37 : UInt8) ∉ l → Lib.indexByte l 37 = -1
  | [], _ => by rfl
  | c :: l, h => by
    have h1 : c ≠ (37 : UInt8) := fun e => h (by rw [e]; simp)
    have h2 : (37 : UInt8) ∉ l := fun e => h (List.mem_cons_of_mem _ e)
    unfold Lib.indexByte
    rw [if_neg (by simpa using h1), indexByte_no h2]
    rfl
theorem pct_no {l : Bs} (h : (37 : UInt8) ∉ l) : pct l = false := by
  unfold pct
  rw [indexByte_no h]; rfl
theorem makes_pl {st : Bs} (hst : ∀ c ∈ st, 97 ≤ c ∧ c ≤ 122) (i j : Nat) (hi : i < 10) (hj : j < 10) : makesF (plR st i) (st ++ sj j) = decide (i = j) := by
  unfold makesF isPlainF plR
  by_cases e : i = j
  · subst e
    simp [pct_no (no37 hst i hi)]
  · have : st ++ sj j ≠ st ++ sj i := fun h => e (sj_inj st hi hj h.symm)
    simp only [List.contains_cons, List.contains_nil, Bool.or_false, e, decide_false]
    rw [beq_eq_false_iff_ne.2 this]; rfl
theorem known_at {st : Bs} (hst : ∀ c ∈ st, 97 ≤ c ∧ c ≤ 122) (th : Nat → Bool) (kn : Bool) (j : Nat) (hj : j < 10) : ∀ n, n ≤ 10 → knownF (chR st th kn n) (st ++ sj j) = (decide (j < n) && (th j && kn))
  | 0, _ => by simp [chR, knownF]
  | n + 1, hn => by
    have ih := known_at hst th kn j hj n (by omega)
    unfold chR
    rw [knownF_app, ih]
    have e0 : knownF (patR n :: addR st (th n && kn) n) (st ++ sj j) = (decide (n = j) && (th n && kn)) := by
      unfold knownF
      rw [List.any_cons, makes_pat hst n j hj]
      cases h : (th n && kn) with
      | false => simp [addR]
      | true =>
        show (false || (addR st true n).any _) = _
        unfold addR
        rw [if_pos rfl, List.any_cons, makes_pl hst n j (by omega) hj]; simp
    rw [e0]
    by_cases e : n = j
    · subst e; simp
    · have e2 : decide (j < n + 1) = decide (j < n) := by by_cases h2 : j < n <;> simp [h2] <;> omega
      rw [e2]; simp [e]
theorem fit_pat {st : Bs} (hst : ∀ c ∈ st, 97 ≤ c ∧ c ≤ 122) (th : Nat → Bool) (kn : Bool) (n j : Nat) (hj : j < n) (hn : n ≤ 10) : fitF (chT st th kn n) (chR st th kn n) st (patR j) = th j := by
  have h1 := chT_at st th kn j (by omega) n hn
  have h2 := known_at hst th kn j (by omega) n hn
  have e : needF st (patR j) = st ++ sj j := rfl
  unfold fitF
  rw [e, h1, h2]
  have hj' : decide (j < n) = true := by simpa using hj
  rw [hj']
  cases th j <;> cases kn <;> rfl
theorem fit_pl (T : Tr) (rs : List Rl) (st : Bs) (j : Nat) : fitF T rs st (plR st j) = false := rfl
def firstT (th : Nat → Bool) : Nat → Option Nat
  | 0 => none
  | m + 1 => match firstT th m with
    | some k => some k
    | none => if th m then some m else none
theorem find_ch {st : Bs} (hst : ∀ c ∈ st, 97 ≤ c ∧ c ≤ 122) (th : Nat → Bool) (kn : Bool) (n : Nat) (hn : n ≤ 10) : ∀ m, m ≤ n → (chR st th kn m).find? (fitF (chT st th kn n) (chR st th kn n) st) = (firstT th m).map patR
  | 0, _ => rfl
  | m + 1, hm => by
    have ih := find_ch hst th kn n hn m (by omega)
    have hf := fit_pat hst th kn n m (by omega) hn
    obtain ⟨p, hp⟩ : ∃ p, fitF (chT st th kn n) (chR st th kn n) st = p := ⟨_, rfl⟩
    have hpl : p (plR st m) = false := by rw [← hp]; rfl
    rw [hp] at ih hf ⊢
    unfold chR firstT
    rw [List.find?_append, ih]
    cases h : firstT th m with
    | some k => rfl
    | none =>
      show (none.or ((patR m :: addR st (th m && kn) m).find? p)) = _
      rw [Option.none_or, List.find?_cons, hf]
      cases h2 : th m with
      | true => rfl
      | false =>
        show (addR st (false && kn) m).find? p = _
        unfold addR
        simp
theorem ch_mem {st : Bs} (th : Nat → Bool) (kn : Bool) : ∀ n, ∀ r ∈ chR st th kn n, (∃ j, j < n ∧ r = patR j) ∨ (∃ j, j < n ∧ r = plR st j)
  | 0, r, h => by simp [chR] at h
  | n + 1, r, h => by
    unfold chR at h
    rcases List.mem_append.1 h with h | h
    · rcases ch_mem th kn n r h with ⟨j, hj, e⟩ | ⟨j, hj, e⟩
      · exact .inl ⟨j, by omega, e⟩
      · exact .inr ⟨j, by omega, e⟩
    · rcases List.mem_cons.1 h with h | h
      · exact .inl ⟨n, by omega, h⟩
      · unfold addR at h
        split at h
        · exact .inr ⟨n, by omega, by simpa using h⟩
        · simp at h
theorem ch_len {st : Bs} (th : Nat → Bool) (kn : Bool) : ∀ n, (chR st th kn n).length ≤ 2 * n
  | 0 => by simp [chR]
  | n + 1 => by
    have ih := ch_len (st := st) th kn n
    unfold chR addR
    rw [List.length_append, List.length_cons]
    split <;> simp <;> omega
theorem ch_few {st : Bs} (th : Nat → Bool) (kn : Bool) (n : Nat) : ∀ r ∈ chR st th kn n, r.ns.length ≤ 100 := by
  intro r h
  rcases ch_mem th kn n r h with ⟨j, _, rfl⟩ | ⟨j, _, rfl⟩ <;> simp [patR, plR]
theorem sj_len (j : Nat) : (sj j).length ≤ 4 := by have := dg_len j; unfold sj; simp; omega
theorem sj_ok : ∀ j : Fin 10, ∀ c ∈ sj j.val, c ≠ 47 ∧ c ≠ 0 := by decide
theorem nm_ch {st : Bs} (h0 : st ≠ []) (hst : ∀ c ∈ st, 97 ≤ c ∧ c ≤ 122) (hl : st.length ≤ 30) (j : Nat) (hj : j < 10) : Nm (st ++ sj j) := by
  have hlt := sj_len j
  have h0' : 0 < st.length := List.length_pos_iff.2 h0
  have h2 : 2 ≤ (sj j).length := by unfold sj; simp
  have hc : ∀ c ∈ st ++ sj j, c ≠ 47 ∧ c ≠ 0 := fun c hc => by
    rcases List.mem_append.1 hc with h | h
    · have := hst c h
      exact ⟨fun e => by rw [e] at this; exact absurd this.1 (by decide), fun e => by rw [e] at this; exact absurd this.1 (by decide)⟩
    · exact sj_ok ⟨j, hj⟩ c h
  refine ⟨fun e => ?_, fun e => ?_, fun e => ?_, fun c h => (hc c h).1, fun c h => (hc c h).2, by rw [List.length_append]; omega⟩
  all_goals
    have := congrArg List.length e
    rw [List.length_append] at this
    simp only [List.length_nil, List.length_cons] at this
    omega
theorem ch_pats {st : Bs} (h0 : st ≠ []) (hst : ∀ c ∈ st, 97 ≤ c ∧ c ≤ 122) (hl : st.length ≤ 30) (th : Nat → Bool) (kn : Bool) (n : Nat) (hn : n ≤ 10) : ∀ r ∈ chR st th kn n, r.rc = [] ∨ PatOk st [46, 111] r := by
  intro r h
  rcases ch_mem th kn n r h with ⟨j, hj, rfl⟩ | ⟨j, _, rfl⟩
  · exact .inr ⟨rfl, sj j, rfl, nm_ch h0 hst hl j (by omega), by have := sj_len j; omega⟩
  · exact .inl rfl
theorem ch_plain {st : Bs} (hst : ∀ c ∈ st, 97 ≤ c ∧ c ≤ 122) (th : Nat → Bool) (kn : Bool) (n : Nat) : plainF (chR st th kn n) (st ++ [46, 111]) = [] := by
  unfold plainF
  rw [List.filter_eq_nil_iff]
  intro r h
  have hno : (37 : UInt8) ∉ st ++ [46, 111] := by
    intro h
    rcases List.mem_append.1 h with h | h
    · exact absurd (hst 37 h).1 (by decide)
    · revert h; decide
  rcases ch_mem th kn n r h with ⟨j, _, rfl⟩ | ⟨j, _, rfl⟩
  · have : ([[37, 46, 111]] : List Bs).contains (st ++ [46, 111]) = false := by
      rw [Bool.eq_false_iff]
      intro h
      have e : st ++ [46, 111] = [37, 46, 111] := by simpa using List.contains_iff_mem.1 h
      exact hno (by rw [e]; simp)
    unfold makesF patR
    rw [this]; simp
  · have : ([st ++ sj j] : List Bs).contains (st ++ [46, 111]) = false := by
      rw [Bool.eq_false_iff]
      intro h
      have e : st ++ [46, 111] = st ++ sj j := by simpa using List.contains_iff_mem.1 h
      have e := List.append_cancel_left e
      unfold sj at e
      injection e with _ e
      injection e with e _
      exact absurd e (by decide)
    unfold makesF plR
    rw [this]; simp
end Go.Proofs.YtjagnihkpgbjeaaDoor

namespace Go.Proofs.YtjagnihkpgbjeaaDoor
open Go.RowKit Go.Maps Go.ChangeMaps
set_option linter.unusedVariables false
/-! alive of find's laws. -/
def ruC : Rl := ⟨[[37, 46, 111]], [[37, 46, 99]], [[120]]⟩
def rsC : List Rl := [ruC]
def TC : Tr := setF newT [[97, 46, 99]] (some ⟨true, [], 0 + 1⟩)
def wdC (w : World) : World := ((((w.alloc (.cells #[.string ⟨#[37, 46, 111]⟩] 9)).alloc (.cells #[.string ⟨#[37, 46, 99]⟩] 9)).alloc (.cells #[.string ⟨#[120]⟩] 9)).alloc (.cells #[.slice (some ⟨w.heap.size, 0, none⟩) 1 1, .slice (some ⟨w.heap.size + 1, 0, none⟩) 1 1, .slice (some ⟨w.heap.size + 1 + 1, 0, none⟩) 1 1] 48)).alloc (.cells #[.slice none 0 0, .slice (some ⟨w.heap.size + 1 + 1 + 1, 0, none⟩) 1 1] 45)
theorem wdC_facts (w : World) : ∀ W, wdC w = W → RsV W (.slice (some ⟨w.heap.size + 1 + 1 + 1, 0, none⟩) 1 1) rsC ∧ Below w.heap.size w W ∧ w.heap.size + 1 + 1 + 1 + 1 < W.heap.size ∧ W.cell? ⟨w.heap.size + 1 + 1 + 1 + 1, 0, none⟩ = some (.slice none 0 0) ∧ W.cell? ⟨w.heap.size + 1 + 1 + 1 + 1, 1, none⟩ = some (.slice (some ⟨w.heap.size + 1 + 1 + 1, 0, none⟩) 1 1) := by
  intro W hW
  unfold wdC at hW
  obtain ⟨w2, h2⟩ : ∃ w2, w.alloc (.cells #[.string ⟨#[37, 46, 111]⟩] 9) = w2 := ⟨_, rfl⟩
  have s2 : w2.heap.size = w.heap.size + 1 := by rw [← h2, size_alloc]
  obtain ⟨w3, h3⟩ : ∃ w3, w2.alloc (.cells #[.string ⟨#[37, 46, 99]⟩] 9) = w3 := ⟨_, rfl⟩
  have s3 : w3.heap.size = w.heap.size + 1 + 1 := by rw [← h3, size_alloc, s2]
  obtain ⟨w5, h5⟩ : ∃ w5, w3.alloc (.cells #[.string ⟨#[120]⟩] 9) = w5 := ⟨_, rfl⟩
  have s5 : w5.heap.size = w.heap.size + 1 + 1 + 1 := by rw [← h5, size_alloc, s3]
  rw [h2, h3, h5] at hW
  obtain ⟨w4, h4⟩ : ∃ w4, w5.alloc (.cells #[.slice (some ⟨w.heap.size, 0, none⟩) 1 1, .slice (some ⟨w.heap.size + 1, 0, none⟩) 1 1, .slice (some ⟨w.heap.size + 1 + 1, 0, none⟩) 1 1] 48) = w4 := ⟨_, rfl⟩
  have s4 : w4.heap.size = w.heap.size + 1 + 1 + 1 + 1 := by rw [← h4, size_alloc, s5]
  rw [h4] at hW
  have b2 : Below w.heap.size w w2 := h2 ▸ below_alloc _ _
  have b3 : Below w2.heap.size w2 w3 := h3 ▸ below_alloc _ _
  have b5 : Below w3.heap.size w3 w5 := h5 ▸ below_alloc _ _
  have b4 : Below w5.heap.size w5 w4 := h4 ▸ below_alloc _ _
  have t2 : SlS w2 (.slice (some ⟨w.heap.size, 0, none⟩) 1 1) [[37, 46, 111]] := by rw [← h2]; exact sl_new w [37, 46, 111]
  have t3 : SlS w3 (.slice (some ⟨w.heap.size + 1, 0, none⟩) 1 1) [[37, 46, 99]] := by rw [← h3, ← s2]; exact sl_new w2 [37, 46, 99]
  have t5 : SlS w5 (.slice (some ⟨w.heap.size + 1 + 1, 0, none⟩) 1 1) [[120]] := by rw [← h5, ← s3]; exact sl_new w3 [120]
  have hr : RsV w4 (.slice (some ⟨w.heap.size + 1 + 1 + 1, 0, none⟩) 1 1) rsC := by
    refine .inr ⟨w.heap.size + 1 + 1 + 1, 0, 1, rfl, by simp [rsC], by omega, by rw [s4]; omega, fun i hi => ?_⟩
    obtain rfl : i = 0 := by simpa [rsC] using hi
    refine ⟨.slice (some ⟨w.heap.size, 0, none⟩) 1 1, .slice (some ⟨w.heap.size + 1, 0, none⟩) 1 1, .slice (some ⟨w.heap.size + 1 + 1, 0, none⟩) 1 1, ?_, ?_, ?_, ⟨((t2.below b3).below b5).below b4, SlE.of ((t3.below b5).below b4), t5.below b4, by simp [rsC, ruC], by simp [rsC, ruC], by simp [rsC, ruC]⟩⟩
    · rw [← s5, ← h4]; exact cell_new _ _ _ _
    · rw [← s5, ← h4]; exact cell_new _ _ _ _
    · rw [← s5, ← h4]; exact cell_new _ _ _ _
  subst hW
  refine ⟨hr.below (below_alloc _ _), below_trans b2 (below_trans b3 (below_trans b5 (below_trans b4 (below_alloc _ _)))), by rw [size_alloc, s4]; omega, ?_, ?_⟩
  · rw [← s4]; exact cell_new _ _ _ _
  · rw [← s4]; exact cell_new _ _ _ _
theorem nmAC : Nm [97, 46, 99] := (okB_nm (by decide)).1
theorem hitC : rsC.find? (fitF TC rsC [97]) = some ruC := by
  have h : fitF TC rsC [97] ruC = true := by decide
  unfold rsC at h ⊢
  exact List.find?_cons_of_pos h
theorem plC : plainF rsC ([97] ++ [46, 111]) = [] := by
  have h : makesF ruC ([97] ++ [46, 111]) = false := by decide
  unfold plainF rsC
  rw [List.filter_cons, h]; rfl
theorem patC : ∀ r ∈ rsC, r.rc = [] ∨ PatOk [97] [46, 111] r := by
  intro r hr
  obtain rfl : r = ruC := by simpa [rsC] using hr
  exact .inr ⟨rfl, [46, 99], rfl, nmAC, by decide⟩
set_option maxRecDepth 100000 in
set_option maxHeartbeats 4000000 in
theorem alive25 (w : World) (hm : Hm w) : Calls Tryd.prog 25 #[] w fun e w' => e = .returned (.bool true) ∧ Below w.heap.size w w' := by
  have HNEW := Lib.hid (fun w => New_sx 3 10 (by omega) (by omega) (by omega) (by omega) w)
  have HW1 := Lib.hid (fun (B : Nat) (w1 : World) (f : Nat) (h : Sx B w1 0 f ⟨3, 10, 0, 0, 0⟩ newT) => Write_sx (s := [97, 46, 99]) h nmAC rfl ⟨by decide, by decide, by decide, by decide, by decide⟩ (by decide) (by decide) (by decide))
  rw [show pathB [97, 46, 99] = ⟨#[47, 97, 46, 99]⟩ from rfl] at HW1
  have HPL := Lib.hid (fun (B : Nat) (w1 : World) (f : Nat) (b : Nat) (h : Sx B w1 1 f ⟨3, 10, 0 + 1, 0, 0 + 1⟩ TC) (hm1 : Hm w1) (hr : RsV w1 (.slice (some ⟨b, 0, none⟩) 1 1) rsC) => (show Calls Tryd.prog 27 #[.agg #[.slice none 0 0, .slice (some ⟨b, 0, none⟩) 1 1], .pointer (some ⟨f, 0, none⟩), .string ⟨#[47]⟩, .string ⟨#[97, 46, 111]⟩] w1 fun e w' => ∃ nv rv, e = .returned (.agg #[nv, rv, .string ⟨#[97]⟩, .bool true]) ∧ SlS w' nv [[97, 46, 99]] ∧ SlS w' rv [[120]] ∧ Below w1.heap.size w1 w' from by
    obtain ⟨F, h1, _⟩ := h.fs
    exact Plan_hit h1 hm1 (.slice none 0 0) (.slice (some ⟨b, 0, none⟩) 1 1) rsC [97] [46, 111] hr (by simp [rsC]) patC (by decide) (by decide) ⟨_, _, _, rfl⟩ (by decide) plC ruC hitC (by decide)))
  obtain ⟨W, hW⟩ : ∃ W, wdC w = W := ⟨_, rfl⟩
  have HWD := Lib.hid (wdC_facts w W hW)
  unfold wdC at hW
  have HWW := Lib.hid hW
  have HM := Lib.hid (hm.below HWD.out.2.1)
  clear hW hm
  go_enter Tryd.func25, Tryd.ntmps25
  go_wp2_with fail
  rw [HWW.out]
  refine (HNEW.out W).mono ?_
  rintro e w1 ⟨f, rfl, hf, h1⟩
  have HF := Lib.hid hf
  have H1 := Lib.hid h1
  clear hf h1
  simp only []
  go_wp2_with (first
    | (go_at_call 15; refine (HW1.out _ _ _ HF.out).mono ?_; rintro e w2 ⟨rfl, hf2, h2⟩; have HF2 := Lib.hid hf2; have H2 := Lib.hid (H1.out.trans h2); have q0 := (H2.out.cell (p := ⟨w.heap.size + 1 + 1 + 1 + 1, 0, none⟩) HWD.out.2.2.1).trans HWD.out.2.2.2.1; have q1 := (H2.out.cell (p := ⟨w.heap.size + 1 + 1 + 1 + 1, 1, none⟩) HWD.out.2.2.1).trans HWD.out.2.2.2.2; clear h2 hf2; simp only [])
    | (go_at_call 27; refine (HPL.out _ _ _ _ HF2.out (HM.out.below H2.out) (HWD.out.1.below H2.out)).mono ?_; rintro e w3 ⟨nv, rv, rfl, hnv, hrv, h3⟩; have H3 := Lib.hid h3; obtain ⟨na, nc, hnf⟩ := hnv.len; have hnf : nv = .slice na 1 nc := hnf; subst hnf; obtain ⟨ra, rn, rc, rfl⟩ := sl_form hrv; obtain ⟨g, off, rfl, _, hc⟩ := strs_sl hnv (by simp); have hck : w3.cell? ⟨g, off, none⟩ = some (.string ⟨#[97, 46, 99]⟩) := hc 0 (by simp); have hgl := World.block_lt_of_cell? _ _ hck; have hck2 : (w3.alloc (.cells #[.slice (some ⟨g, off, none⟩) 1 nc, .slice ra rn rc, .string ⟨#[97]⟩, .bool true] 50)).cell? ⟨g, off, none⟩ = some (.string ⟨#[97, 46, 99]⟩) := ((below_alloc _ _).cell (p := ⟨g, off, none⟩) hgl).trans hck; clear hnv hrv h3 hc; simp only []))
  go_ret
  exact ⟨rfl, below_trans HWD.out.2.1 (below_trans H2.out (below_trans H3.out (below_alloc _ _)))⟩
end Go.Proofs.YtjagnihkpgbjeaaDoor

namespace Go.Proofs.YtjagnihkpgbjeaaDoor
open Go.RowKit Go.Maps Go.ChangeMaps
set_option linter.unusedVariables false
/-! FindSuffixes: the rules, what they tell. -/
def sufB : Bs := [46, 83, 85, 70, 70, 73, 88, 69, 83]
def Low (l : Bs) : Prop := ∀ c ∈ l, (97 : UInt8) ≤ c ∧ c ≤ 122
theorem Low.no37 {l : Bs} (h : Low l) : (37 : UInt8) ∉ l := fun e => absurd (h 37 e).1 (by decide)
theorem Low.no46 {l : Bs} (h : Low l) : (46 : UInt8) ∉ l := fun e => absurd (h 46 e).1 (by decide)
theorem Low.app {a b : Bs} (h : Low (a ++ b)) : Low a ∧ Low b := ⟨fun c hc => h c (List.mem_append_left _ hc), fun c hc => h c (List.mem_append_right _ hc)⟩
def ruS (a b : Bs) : Rl := ⟨[46 :: (a ++ 46 :: b)], [], [[114]]⟩
def sxS (a b : Bs) : Rl := ⟨[sufB], [46 :: a, 46 :: b], []⟩
def addS (a b : Bs) (li : Bool) : List Rl := if li then [sxS a b] else []
def rsS (a b : Bs) (li : Bool) : List Rl := ruS a b :: addS a b li
theorem rsS_len (a b : Bs) (li : Bool) : (rsS a b li).length ≤ 2 := by cases li <;> simp [rsS, addS]
theorem rsS_few (a b : Bs) (li : Bool) : ∀ r ∈ rsS a b li, r.ns.length ≤ 100 := by
  intro r hr
  cases li
  · have : r = ruS a b := by simpa [rsS, addS] using hr
    subst this; simp [ruS]
  · have : r = ruS a b ∨ r = sxS a b := by simpa [rsS, addS] using hr
    rcases this with rfl | rfl <;> simp [ruS, sxS]
theorem mid_no37 {a b : Bs} (ha : Low a) (hb : Low b) : (37 : UInt8) ∉ (46 :: (a ++ 46 :: b) : Bs) := by
  intro h
  simp only [List.mem_cons, List.mem_append] at h
  rcases h with h | h | h | h
  · exact absurd h (by decide)
  · exact ha.no37 h
  · exact absurd h (by decide)
  · exact hb.no37 h
theorem plain_ru {a b : Bs} (ha : Low a) (hb : Low b) : isPlainF (ruS a b) = true := by
  unfold isPlainF ruS
  simp [pct_no (mid_no37 ha hb)]
theorem plain_sx (a b : Bs) : isPlainF (sxS a b) = true := by
  unfold isPlainF sxS
  have : pct sufB = false := by decide
  simp [this]
/-- A text that a letter begins is no target of these rules. -/
theorem makes_no {a b x : Bs} (h : x.head? ≠ some 46) : makesF (ruS a b) x = false ∧ makesF (sxS a b) x = false := by
  have h1 : x ≠ 46 :: (a ++ 46 :: b) := fun e => h (by rw [e]; rfl)
  have h2 : x ≠ sufB := fun e => h (by rw [e]; rfl)
  constructor
  · unfold makesF ruS
    simp only [List.contains_cons, List.contains_nil, Bool.or_false]
    rw [beq_eq_false_iff_ne.2 h1]; rfl
  · unfold makesF sxS
    simp only [List.contains_cons, List.contains_nil, Bool.or_false]
    rw [beq_eq_false_iff_ne.2 h2]; rfl
theorem plainF_no {a b x : Bs} (li : Bool) (h : x.head? ≠ some 46) : plainF (rsS a b li) x = [] := by
  obtain ⟨h1, h2⟩ := makes_no (a := a) (b := b) h
  unfold plainF rsS
  rw [List.filter_cons, h1]
  cases li
  · rfl
  · unfold addS
    rw [if_pos rfl, List.filter_cons, h2]; rfl
theorem known_no {a b x : Bs} (li : Bool) (h : x.head? ≠ some 46) : knownF (rsS a b li) x = false := by
  obtain ⟨h1, h2⟩ := makes_no (a := a) (b := b) h
  unfold knownF rsS
  rw [List.any_cons, h1]
  cases li
  · rfl
  · unfold addS
    rw [if_pos rfl, List.any_cons, h2]; rfl
theorem ru_suf {a b : Bs} (ha : Low a) (hne : a ≠ []) : makesF (ruS a b) sufB = false := by
  have h1 : sufB ≠ 46 :: (a ++ 46 :: b) := by
    intro e
    cases a with
    | nil => exact hne rfl
    | cons x xs =>
      unfold sufB at e
      injection e with _ e
      injection e with e _
      have := (ha x (by simp)).1
      rw [← e] at this
      exact absurd this (by decide)
  unfold makesF ruS
  simp only [List.contains_cons, List.contains_nil, Bool.or_false]
  rw [beq_eq_false_iff_ne.2 h1]; rfl
def sfx (a b : Bs) (li : Bool) : List Bs := if li then [46 :: a, 46 :: b] else []
theorem special_rs {a b : Bs} (ha : Low a) (hne : a ≠ []) (li : Bool) : specialF (rsS a b li) sufB = sfx a b li := by
  unfold specialF plainF rsS
  rw [List.filter_cons, ru_suf ha hne]
  cases li
  · rfl
  · unfold addS
    have h2 : makesF (sxS a b) sufB = true := by
      unfold makesF
      rw [plain_sx]
      simp [sxS]
    rw [if_pos rfl, List.filter_cons, h2]; rfl
theorem head_low {s t : Bs} (hs : Low s) (hne : s ≠ []) : (s ++ t).head? ≠ some 46 := by
  cases s with
  | nil => exact absurd rfl hne
  | cons x xs =>
    intro e
    have e : x = 46 := by simpa using e
    exact absurd (hs x (by simp)).1 (by rw [e]; decide)
theorem nm_two {s a : Bs} (hs : Low s) (ha : Low a) (hne : s ≠ []) (hl : s.length + a.length ≤ 59) : Nm (s ++ 46 :: a) := by
  have hm : ∀ c ∈ s ++ 46 :: a, (97 ≤ c ∧ c ≤ 122) ∨ c = 46 := by
    intro c hc
    simp only [List.mem_append, List.mem_cons] at hc
    rcases hc with h | h | h
    · exact .inl (hs c h)
    · exact .inr h
    · exact .inl (ha c h)
  have hh := head_low (t := 46 :: a) hs hne
  refine ⟨by simp, fun e => hh (by rw [e]; rfl), fun e => hh (by rw [e]; rfl), fun c hc e => ?_, fun c hc e => ?_, by simp; omega⟩
  · rcases hm c hc with h | h
    · rw [e] at h; exact absurd h.1 (by decide)
    · rw [e] at h; exact absurd h (by decide)
  · rcases hm c hc with h | h
    · rw [e] at h; exact absurd h.1 (by decide)
    · rw [e] at h; exact absurd h (by decide)
def trS (n : Bs) (th : Bool) : Tr := if th then setF newT [n] (some ⟨true, [], 0 + 1⟩) else newT
theorem kd_trS (n : Bs) (th : Bool) : kdF (trS n th) n = if th then 1 else 0 := by
  cases th
  · rfl
  · unfold trS kdF
    rw [if_pos rfl, setF_same]; rfl
end Go.Proofs.YtjagnihkpgbjeaaDoor
