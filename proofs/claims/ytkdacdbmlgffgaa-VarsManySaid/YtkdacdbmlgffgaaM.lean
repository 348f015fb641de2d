import Derived.Test.YtkdacdbmlgffgaaK
import Derived.Lib.SliceRun
import Derived.Laws.StructEq
namespace Go.Proofs.Ytkdacdbmlgffgaa
open Go.RowKit
set_option linter.unusedVariables false

set_option maxRecDepth 100000 in
set_option maxHeartbeats 4000000 in
theorem Get_any (g : Nat) (v : Value) (L : List Pr) (x : ByteArray) (B : Nat) (w : World) (hL : L.length ≤ 50000) (hr : Ris L) (hV : VAt w 26 B g v L) :
    Calls Try.prog 12 #[.pointer (some ⟨g, 0, none⟩), .string x] w fun e w' => e = .returned (.tuple #[.string (getL L x.data.toList), .bool (has L x.data.toList)]) ∧ Below w.heap.size w w' := by
  have HF := Lib.hid (find_any g v L x B w (by omega) hr hV)
  obtain ⟨P, hP⟩ : ∃ P, pos L x.data.toList = P := ⟨_, rfl⟩
  obtain ⟨H, hH⟩ : ∃ H, has L x.data.toList = H := ⟨_, rfl⟩
  have HG1 := Lib.hid (fun (h : H = true) => has_at hP (hH.trans h))
  have HG : Hid (getL L x.data.toList = if H then ((L[P]?).map Pr.v).getD ⟨#[]⟩ else ⟨#[]⟩) := by rw [Hid, getL, hP, hH]
  rw [hP, hH] at HF
  rw [hH]
  obtain ⟨G, hG⟩ : ∃ G, getL L x.data.toList = G := ⟨_, rfl⟩
  rw [hG] at HG ⊢
  have hpI : (P : Int) ≤ 50000 := by have := pos_le L x.data.toList; omega
  have hp0 : (0 : Int) ≤ (P : Int) := by omega
  have HV := Lib.hid hV
  clear hP hH hG hV hr
  go_enter Try.func12, Try.ntmps12
  go_wp2_with fail
  refine HF.out.mono ?_
  rintro e w1 ⟨rfl, hb1⟩
  have HV1 := Lib.hid (HV.out.below hb1)
  have hc1 := HV1.out.cell
  have HB1 := Lib.hid hb1
  clear hb1
  simp only []
  cases H with
  | false =>
    have HE : Hid (G = ⟨#[]⟩) := HG.out
    go_wp2_with fail
    go_ret2
    exact ⟨by rw [HE.out]; rfl, HB1.out⟩
  | true =>
    obtain ⟨hPl, hkey⟩ := HG1.out rfl
    have HE : Hid (G = L[P].v) := by rw [Hid, HG.out, if_pos rfl, List.getElem?_eq_getElem hPl]; rfl
    have hPlI : (P : Int) < (L.length : Int) := by omega
    rcases HV1.out.row.form with ⟨h, h2⟩ | ⟨b, cap, rfl, hb1, hb2, hcap, hcm, hcells, hfz⟩
    · exact absurd hPl (by rw [h2]; simp)
    have hcv := (hcells P hPl).2
    have hadd := add2 b P
    clear hcells hfz hkey
    go_wp2_with fail
    go_ret2
    exact ⟨by rw [HE.out]; rfl, HB1.out⟩

set_option maxRecDepth 100000 in
set_option maxHeartbeats 4000000 in
theorem Clone_any (v : Value) (L : List Pr) (B : Nat) (w : World) (hL : L.length ≤ 100000) (hR : Row w B v L) :
    Calls Try.prog 29 #[v] w fun e w' => (∃ v', e = .returned v' ∧ Row w' w.heap.size v' L) ∧ Below w.heap.size w w' := by
  have q24 : ∀ (w : World) (a : Option Addr) (n c n' c' : Nat), (binOp .eql 24 (.slice a n c) (.slice none n' c')).run Try.prog w = .ok (.bool a.isNone) w := fun w a n c n' c' => Lib.run_eql_slice_nil w _ _ a n c n' c' Try.underlying24
  rcases hR.form with ⟨rfl, rfl⟩ | ⟨b, cap, rfl, hb1, hb2, hcap, hcm, hcells, hfz⟩
  · clear hR
    go_enter Try.func29, Try.ntmps29
    go_wp2_with fail
    go_ret
    exact ⟨⟨_, rfl, World.ownsRow_nil _ _ _ _⟩, Below.refl _ _⟩
  · obtain ⟨i0, hi, hz0, hz1, hz2⟩ := info_parts info54
    have hsrc : ∀ j u, (pcells L)[j]? = some u → (w.alloc (.cells #[] 54)).cell? ((⟨b, 0, none⟩ : Addr).add j) = some u := fun j u hj => by
      have h := hR.cells (g := b) rfl j u hj
      rw [Addr.add_lit] at h ⊢
      rw [← h]
      exact World.cell?_of_block (heap_alloc_old w _ hb2)
    have hown : (w.alloc (.cells #[] 54)).ownsRow w.heap.size 54 2 (.slice (some ⟨w.heap.size, 0, none⟩) 0 0) 0 [] := World.ownsRow_made w #[] 0 (Nat.le_refl _) (by unfold maxLen; omega) rfl
    have hap := fun ty => run_append_own (P := Try.prog) (w.alloc (.cells #[] 54)) w.heap.size 24 ty 54 i0 _ 2 32 Try.underlying24 hi hz0 hz1 hz2 rfl (by decide) _ 0 [] hown ⟨b, 0, none⟩ L.length cap (pcells L) (pcells_len L) hsrc pcells_one (by unfold maxLen; omega) (by omega) (by simp)
    obtain ⟨v', w', hr, h3, h4, h5⟩ := hap 24
    rw [List.nil_append, Nat.zero_add] at h3
    have H3 : Hid (Row w' w.heap.size v' L) := h3
    have H4 := Lib.hid h4
    unfold maxLen at hcm
    clear h3 h4 h5 hap hown hsrc hcells hfz hR hi hz0 hz1 hz2
    go_enter Try.func29, Try.ntmps29
    go_wp2_with (at_builtin; refine wpList_run_append _ rfl _ _ 24 24 rfl _ _ rfl rfl hr ?_)
    go_ret
    exact ⟨⟨_, rfl, H3.out⟩, ((Below.refl _ _).alloc (Nat.le_refl _) _).grown H4.out (by simp) (fun k hk => by cases hk; exact Nat.le_refl _)⟩
set_option maxRecDepth 100000 in
theorem All_any (g : Nat) (v : Value) (L : List Pr) (B : Nat) (w : World) (hL : L.length ≤ 50000) (hV : VAt w 26 B g v L) :
    Calls Try.prog 17 #[.pointer (some ⟨g, 0, none⟩)] w fun e w' => (∃ v', e = .returned v' ∧ Row w' w.heap.size v' L) ∧ Below w.heap.size w w' := by
  have HC := Lib.hid (Clone_any v L B w (by omega) hV.row)
  have hc := hV.cell
  clear hV
  go_enter Try.func17, Try.ntmps17
  go_wp2_with fail
  refine HC.out.mono ?_
  rintro e w1 ⟨⟨v', rfl, hR⟩, hb⟩
  have HR := Lib.hid hR
  have HB := Lib.hid hb
  clear hb
  simp only []
  rcases hR.form with ⟨rfl, _⟩ | ⟨b2, cap2, rfl, _⟩
  all_goals
    clear hR
    go_wp2_with fail
    go_ret
    exact ⟨⟨_, rfl, HR.out⟩, HB.out⟩
set_option maxRecDepth 100000 in
theorem Copy_any (g : Nat) (v : Value) (L : List Pr) (B : Nat) (w : World) (hL : L.length ≤ 50000) (hV : VAt w 26 B g v L) :
    Calls Try.prog 18 #[.pointer (some ⟨g, 0, none⟩)] w fun e w' => (∃ g' v', e = .returned (.pointer (some ⟨g', 0, none⟩)) ∧ VAt w' 26 w.heap.size g' v' L ∧ (∀ j, v'.ownBlock = some j → w.heap.size ≤ j)) ∧ Below w.heap.size w w' := by
  have HC := Lib.hid (Clone_any v L B w (by omega) hV.row)
  have hc := hV.cell
  clear hV
  go_enter Try.func18, Try.ntmps18
  go_wp2_with fail
  refine HC.out.mono ?_
  rintro e w1 ⟨⟨v', rfl, hR⟩, hb⟩
  have HO : Hid (∀ j, v'.ownBlock = some j → w.heap.size ≤ j) := fun j hj => (hR.lt j hj).1
  have HE : Hid (VAt (w1.alloc (.cells #[v'] 26)) 26 w.heap.size w1.heap.size v' L) := by
    refine ⟨heap_alloc_new w1 _, ?_, hb.size, fun e => by have := (hR.lt _ e).2; omega⟩
    exact hR.alloc _
  have HB : Hid (Below w.heap.size w (w1.alloc (.cells #[v'] 26))) := hb.alloc hb.size _
  clear hb
  simp only []
  rcases hR.form with ⟨rfl, _⟩ | ⟨b2, cap2, rfl, _⟩
  all_goals
    clear hR
    go_wp2_with fail
    go_ret
    exact ⟨⟨_, _, rfl, HE.out, HO.out⟩, HB.out⟩
theorem eq54 (a b c d : ByteArray) (w : World) : (Op.equalIn 10000 54 (.agg #[.string a, .string b]) (.agg #[.string c, .string d])).run Try.prog w = .ok (a.toList == c.toList && b.toList == d.toList) w := by
  have u9 := Try.underlying9
  have a9 := Try.isAgg9
  have z9 := Try.sizeOf9
  have hS : Try.prog.underlying 54 = some (.struct (Try.prog.fieldsOf 54)) := by kernel_rfl
  have hp : Try.prog.stoodInHeld 54 = false := by kernel_rfl
  rw [show (10000 : Nat) = 9999 + 1 from rfl, run_equalIn_agg w 9999 54 _ _ hS hp]
  simp only [Program.fieldsOf, Try.underlying54]
  go_simp
  by_cases h1 : a.toList = c.toList <;> by_cases h2 : b.toList = d.toList <;> simp [h1, h2]
theorem pr_eq (p q : Pr) : (p.n.toList == q.n.toList && p.v.toList == q.v.toList) = decide (p = q) := by
  rw [Bool.eq_iff_iff, Bool.and_eq_true, beq_iff_eq, beq_iff_eq, decide_eq_true_iff, Lib.toList_data, Lib.toList_data, Lib.toList_data, Lib.toList_data]
  constructor
  · rintro ⟨h1, h2⟩
    cases p; cases q
    simp only [Pr.mk.injEq]
    exact ⟨Pr.key_inj h1, Pr.key_inj h2⟩
  · rintro rfl; exact ⟨rfl, rfl⟩
set_option maxRecDepth 100000 in
set_option maxHeartbeats 4000000 in
theorem SamePairs_any (v1 v2 : Value) (L M : List Pr) (B1 B2 : Nat) (w : World) (hL : L.length ≤ 100000) (hM : M.length ≤ 100000) (hR1 : Row w B1 v1 L) (hR2 : Row w B2 v2 M) :
    Calls Try.prog 16 #[v1, v2] w fun e w' => e = .returned (.bool (decide (L = M))) ∧ Below w.heap.size w w' := by
  obtain ⟨r, hr⟩ : ∃ r, decide (L = M) = r := ⟨_, rfl⟩
  rw [hr]
  have HR := Lib.hid hr
  have hlI : (L.length : Int) ≤ 100000 := by omega
  have hmI : (M.length : Int) ≤ 100000 := by omega
  clear hr
  by_cases hlen : L.length = M.length
  · have hlenI : (L.length : Int) = (M.length : Int) := by omega
    have HL := Lib.hid hlen
    by_cases h0 : L.length = 0
    · have HE : Hid (r = true) := by
        rw [Hid, ← HR.out, decide_eq_true_iff, List.length_eq_zero_iff.1 h0, List.length_eq_zero_iff.1 (hlen.symm.trans h0)]
      have l1 : ∃ a c, v1 = .slice a 0 c := by rcases hR1.form with ⟨rfl, rfl⟩ | ⟨b, cap, rfl, _⟩ <;> first | exact ⟨_, _, rfl⟩ | exact ⟨_, _, by rw [h0]⟩
      have l2 : ∃ a c, v2 = .slice a 0 c := by rcases hR2.form with ⟨rfl, rfl⟩ | ⟨b, cap, rfl, _⟩ <;> first | exact ⟨_, _, rfl⟩ | exact ⟨_, _, by rw [← hlen, h0]⟩
      obtain ⟨a1, c1, rfl⟩ := l1
      obtain ⟨a2, c2, rfl⟩ := l2
      clear hlen hlenI HL hR1 hR2 h0
      go_enter Try.func16, Try.ntmps16
      go_wp2_with fail
      go_loop [5] (fun i => i = .int .i64 0) (fun _ => 0)
      case atStart => rfl
      case round =>
        subst hrel
        go_wp2_with fail
        go_ret
        exact ⟨by rw [HE.out]; rfl, Below.refl _ _⟩
    · obtain ⟨b1, c1, rfl, x1, x2, x3, x4, hC1, _⟩ : ∃ b cap, v1 = .slice (some ⟨b, 0, none⟩) L.length cap ∧ B1 ≤ b ∧ b < w.heap.size ∧ L.length ≤ cap ∧ cap ≤ maxLen ∧ (∀ i (h : i < L.length), w.cell? ⟨b, i * 2, none⟩ = some (.string L[i].n) ∧ w.cell? ⟨b, i * 2 + 1, none⟩ = some (.string L[i].v)) ∧ ∀ j, w.frozen? ⟨b, j, none⟩ = false := by
        rcases hR1.form with ⟨_, h⟩ | h
        · rw [h] at h0; exact absurd rfl h0
        · exact h
      obtain ⟨b2, c2, rfl, y1, y2, y3, y4, hC2, _⟩ : ∃ b cap, v2 = .slice (some ⟨b, 0, none⟩) M.length cap ∧ B2 ≤ b ∧ b < w.heap.size ∧ M.length ≤ cap ∧ cap ≤ maxLen ∧ (∀ i (h : i < M.length), w.cell? ⟨b, i * 2, none⟩ = some (.string M[i].n) ∧ w.cell? ⟨b, i * 2 + 1, none⟩ = some (.string M[i].v)) ∧ ∀ j, w.frozen? ⟨b, j, none⟩ = false := by
        rcases hR2.form with ⟨_, h⟩ | h
        · rw [h, List.length_nil] at hlen; exact absurd hlen h0
        · exact h
      have HC1 := Lib.hid hC1
      have HC2 := Lib.hid hC2
      obtain ⟨n, hn⟩ : ∃ n, M.length = n := ⟨_, rfl⟩
      have HN := Lib.hid hn
      rw [hn] at hmI hlenI hlen y3 ⊢
      have HL2 := Lib.hid hlen
      rw [hlen] at hlI hlenI x3 h0 ⊢
      clear hC1 hC2 hR1 hR2 hlen hn HL hlenI h0
      go_enter Try.func16, Try.ntmps16
      go_wp2_with fail
      go_loopw [5] (fun i wr => ∃ k : Nat, k ≤ n ∧ i = .int .i64 k ∧ Hid (∀ j, j < k → L[j]? = M[j]?) ∧ Hid (Below w.heap.size w wr)) (fun i _ => n - (intOf i).toNat)
      case atStart => exact ⟨0, by omega, rfl, (fun j h => by omega), Below.refl _ _⟩
      case round =>
        obtain ⟨k, hk, rfl, HS, HB⟩ := hrel
        by_cases hlt : k < n
        · have hltI : (k : Int) < (n : Int) := by omega
          have hk0 : (0 : Int) ≤ (k : Int) := by omega
          have hkL : k < L.length := by have := HL2.out; omega
          have hkM : k < M.length := by have := HN.out; omega
          obtain ⟨p1, p2⟩ := HC1.out k hkL
          obtain ⟨q1, q2⟩ := HC2.out k hkM
          rw [← HB.out.cell (p := ⟨b1, k * 2, none⟩) x2] at p1
          rw [← HB.out.cell (p := ⟨b1, k * 2 + 1, none⟩) x2] at p2
          rw [← HB.out.cell (p := ⟨b2, k * 2, none⟩) y2] at q1
          rw [← HB.out.cell (p := ⟨b2, k * 2 + 1, none⟩) y2] at q2
          have ad1 := add2 b1 k
          have ad2 := add2 b2 k
          have hm54 : Try.prog.eqGuardType Try.prog.depth 54 = false := by kernel_rfl
          have hq := fun w => eq54 L[k].n L[k].v M[k].n M[k].v w
          rw [pr_eq] at hq
          by_cases he : L[k] = M[k]
          · rw [decide_eq_true he] at hq
            have HN1 : Hid (∀ j, j < k + 1 → L[j]? = M[j]?) := by
              intro j hj
              by_cases h : j = k
              · subst h; rw [List.getElem?_eq_getElem hkL, List.getElem?_eq_getElem hkM, he]
              · exact HS.out j (by omega)
            clear he
            obtain ⟨s1, hs1⟩ : ∃ s, L[k].n = s := ⟨_, rfl⟩
            obtain ⟨s2, hs2⟩ : ∃ s, L[k].v = s := ⟨_, rfl⟩
            obtain ⟨s3, hs3⟩ : ∃ s, M[k].n = s := ⟨_, rfl⟩
            obtain ⟨s4, hs4⟩ : ∃ s, M[k].v = s := ⟨_, rfl⟩
            rw [hs1, hs2, hs3, hs4] at hq
            rw [hs1] at p1
            rw [hs2] at p2
            rw [hs3] at q1
            rw [hs4] at q2
            clear hs1 hs2 hs3 hs4
            go_wp2_with fail
            go_quiet (fail)
            go_wp2_with fail
            exact ⟨⟨k + 1, by omega, by go_num, HN1.out, below_drewN HB.out _⟩, by simp [intOf]; omega⟩
          · rw [decide_eq_false he] at hq
            have HE : Hid (r = false) := by
              rw [Hid, ← HR.out]
              exact decide_eq_false (fun e => he (by subst e; rfl))
            clear he
            obtain ⟨s1, hs1⟩ : ∃ s, L[k].n = s := ⟨_, rfl⟩
            obtain ⟨s2, hs2⟩ : ∃ s, L[k].v = s := ⟨_, rfl⟩
            obtain ⟨s3, hs3⟩ : ∃ s, M[k].n = s := ⟨_, rfl⟩
            obtain ⟨s4, hs4⟩ : ∃ s, M[k].v = s := ⟨_, rfl⟩
            rw [hs1, hs2, hs3, hs4] at hq
            rw [hs1] at p1
            rw [hs2] at p2
            rw [hs3] at q1
            rw [hs4] at q2
            clear hs1 hs2 hs3 hs4
            go_wp2_with fail
            go_quiet (fail)
            go_wp2_with fail
            go_ret
            exact ⟨by rw [HE.out]; rfl, below_drewN HB.out _⟩
        · have hge : ¬ (k : Int) < (n : Int) := by omega
          obtain rfl : k = n := by omega
          have HE : Hid (r = true) := by
            rw [Hid, ← HR.out, decide_eq_true_iff]
            apply List.ext_getElem?
            intro j
            by_cases hj : j < k
            · exact HS.out j hj
            · rw [List.getElem?_eq_none (by have := HL2.out; omega), List.getElem?_eq_none (by have := HN.out; omega)]
          go_wp2_with fail
          go_ret
          exact ⟨by rw [HE.out]; rfl, HB.out⟩
  · have hne : ((L.length : Int) != (M.length : Int)) = true := by rw [bne_iff_ne]; omega
    have HE : Hid (r = false) := by rw [Hid, ← HR.out]; exact decide_eq_false (fun e => hlen (by rw [e]))
    have l1 : ∃ a c, v1 = .slice a L.length c := by rcases hR1.form with ⟨rfl, rfl⟩ | ⟨b, cap, rfl, _⟩ <;> exact ⟨_, _, rfl⟩
    have l2 : ∃ a c, v2 = .slice a M.length c := by rcases hR2.form with ⟨rfl, rfl⟩ | ⟨b, cap, rfl, _⟩ <;> exact ⟨_, _, rfl⟩
    obtain ⟨a1, c1, rfl⟩ := l1
    obtain ⟨a2, c2, rfl⟩ := l2
    clear hlen hR1 hR2
    go_enter Try.func16, Try.ntmps16
    go_wp2_with fail
    go_ret
    exact ⟨by rw [HE.out]; rfl, Below.refl _ _⟩
end Go.Proofs.Ytkdacdbmlgffgaa
