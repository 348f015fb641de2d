import Derived.Test.YtjagnihkpgbjeaaDoorVN2
import Derived.Scope
import Derived.Test.YtjagnihkpgbjeaaDoorFC
namespace Go.Proofs.YtjagnihkpgbjeaaDoor
open Go.RowKit Go.Maps Go.ChangeMaps
set_option linter.unusedVariables false
def phB : ByteArray := ⟨#[46, 80, 72, 79, 78, 89]⟩
def badF (rs : List Rl) (T : Tr) (x : Bs) : Bool := !thF T x || hasF rs phB.data.toList x
def oldF (rs : List Rl) (T : Tr) (tg : Bs) (L M : List Bs) : Bool :=
  hasF rs phB.data.toList tg || (!thF T tg || (!(newerF T tg L).isEmpty || L.any fun x => M.contains x && badF rs T x))
/-- The two boxes of a call, later. -/
structure Bx2 (w w1 : World) (a b c d : Value) : Prop where
  q0 : w1.cell? ⟨w.heap.size, 0, none⟩ = some a
  q1 : w1.cell? ⟨w.heap.size, 1, none⟩ = some b
  q2 : w1.cell? ⟨w.heap.size + 1, 0, none⟩ = some c
  q3 : w1.cell? ⟨w.heap.size + 1, 1, none⟩ = some d
  old : Below w.heap.size w w1
theorem bx2 (w : World) (a b c d : Value) (t u : TypeId) : Bx2 w ((w.alloc (.cells #[a, b] t)).alloc (.cells #[c, d] u)) a b c d := by
  have h1 := heap_alloc_new w (.cells #[a, b] t)
  have h2 := heap_alloc_new (w.alloc (.cells #[a, b] t)) (.cells #[c, d] u)
  have hz : (w.alloc (.cells #[a, b] t)).heap.size = w.heap.size + 1 := by simp
  rw [hz] at h2
  have h3 : ((w.alloc (.cells #[a, b] t)).alloc (.cells #[c, d] u)).heap[w.heap.size]? = some (.cells #[a, b] t) := by
    rw [Below.heap_alloc _ _ _ (by simp)]; exact h1
  exact ⟨by simp only [World.cell?, h3]; rfl, by simp only [World.cell?, h3]; rfl, by simp only [World.cell?, h2]; rfl, by simp only [World.cell?, h2]; rfl, (below_alloc _ _).trans ((below_alloc _ _).mono (by simp))⟩
theorem Bx2.below {w w1 w2 : World} {a b c d : Value} (h : Bx2 w w1 a b c d) (hb : Below w1.heap.size w1 w2) : Bx2 w w2 a b c d := by
  have l0 := World.block_lt_of_cell? _ _ h.q0
  have l2 := World.block_lt_of_cell? _ _ h.q2
  exact ⟨(hb.cell (p := ⟨w.heap.size, 0, none⟩) l0).trans h.q0, (hb.cell (p := ⟨w.heap.size, 1, none⟩) l0).trans h.q1, (hb.cell (p := ⟨w.heap.size + 1, 0, none⟩) l2).trans h.q2, (hb.cell (p := ⟨w.heap.size + 1, 1, none⟩) l2).trans h.q3, h.old.trans (hb.mono h.old.size)⟩
section
variable {w : World} {B N f : Nat} {c : Cn} {T : Tr} {F : Nat → Prop} {s : Bz}
set_option maxRecDepth 100000 in
set_option maxHeartbeats 4000000 in
theorem Old_first (hF : Fs w B N f c T F) (hs : Nm s) (ms v nv mv : Value) (rs : List Rl) (hv : RsV w v rs) (hl : rs.length ≤ 1000) (L : List Bs) (hnv : SlS w nv L) (hnl : L.length ≤ 1000) (hL : ∀ x ∈ L, Nm x)
    (hne : (hasF rs phB.data.toList s || (!thF T s || !(newerF T s L).isEmpty)) = true) :
    Calls Tryd.prog 34 #[.agg #[ms, v], .pointer (some ⟨f, 0, none⟩), .string ⟨#[47]⟩, .string (nameB s), nv, mv] w fun e w' => e = .returned (.bool true) ∧ Below w.heap.size w w' := by
  obtain ⟨h1, hh1⟩ : ∃ h1, hasF rs phB.data.toList s = h1 := ⟨_, rfl⟩
  obtain ⟨h2, hh2⟩ : ∃ h2, thF T s = h2 := ⟨_, rfl⟩
  rw [hh1, hh2] at hne
  have HA := Lib.hid (fun (w' : World) (hb : Below w.heap.size w w') => Has_any ms v rs phB (nameB s) w' (hv.below hb) hl h1 (by rw [show (nameB s).data.toList = s by unfold nameB; simp]; exact hh1))
  have HT := Lib.hid (fun (w' : World) (hb : Below w.heap.size w w') => there_any (hF.below hb) hs h2 hh2)
  have HNW := Lib.hid (fun (w' : World) (hb : Below w.heap.size w w') (ht : thF T s = true) => Newer_yes (hF.below hb) hs nv L (hnv.below hb) hnl hL ht)
  have HH2 := Lib.hid hh2
  obtain ⟨a, d, rfl⟩ := hnv.len
  obtain ⟨a3, n3, c3, rfl⟩ : ∃ a n c, v = .slice a n c := by obtain ⟨a, c, rfl⟩ := hv.len; exact ⟨_, _, _, rfl⟩
  obtain ⟨nb, hnb⟩ : ∃ nb, nameB s = nb := ⟨_, rfl⟩
  rw [hnb] at HA HT HNW ⊢
  have HB0 := Lib.hid (bx2 w ms (.slice a3 n3 c3) (.pointer (some ⟨f, 0, none⟩)) (.string ⟨#[47]⟩) 45 104)
  obtain ⟨nn, hnn⟩ : ∃ nn, L.length = nn := ⟨_, rfl⟩
  rw [hnn] at HNW ⊢
  have HPH : Hid (phB = ⟨#[46, 80, 72, 79, 78, 89]⟩) := rfl
  rw [HPH.out] at HA
  clear hF hs hv hnv hnl hL hh1 hh2 hnb hnn
  cases h1 with
  | true =>
    clear hne
    go_enter Tryd.func34, Tryd.ntmps34
    go_wp2_with fail
    refine wp_scope_straight ?_
    go_wp2_with (go_at_call 61; refine (HA.out _ HB0.out.old).mono ?_; rintro e w1 ⟨rfl, h1⟩; have H1 := Lib.hid (HB0.out.below h1); clear h1; simp only [])
    simp +zetaDelta only [Exit.noGoto_ret]
    go_ret
    exact ⟨rfl, H1.out.old⟩
  | false =>
    cases h2 with
    | false =>
      clear hne
      go_enter Tryd.func34, Tryd.ntmps34
      go_wp2_with fail
      refine wp_scope_straight ?_
      go_wp2_with (first
        | (go_at_call 61; refine (HA.out _ HB0.out.old).mono ?_; rintro e w1 ⟨rfl, h1⟩; have H1 := Lib.hid (HB0.out.below h1); clear h1; have q2 := H1.out.q2; have q3 := H1.out.q3; simp only [])
        | (go_at_call 62; refine (HT.out _ H1.out.old).mono ?_; rintro e w2 ⟨rfl, h2⟩; have H2 := Lib.hid (H1.out.below h2); clear h2; simp only []))
      simp +zetaDelta only [Exit.noGoto_ret]
      go_ret
      exact ⟨rfl, H2.out.old⟩
    | true =>
      have hne : (newerF T s L).isEmpty = false := by simpa using hne
      unfold newerF at hne
      rw [if_pos HH2.out] at hne
      obtain ⟨P, hP⟩ : ∃ P, L.filter (fun x => decide (tmF T s < tmF T x)) = P := ⟨_, rfl⟩
      rw [hP] at hne HNW
      obtain ⟨pn, hpn⟩ : ∃ pn, P.length = pn := ⟨_, rfl⟩
      have hp0 : 0 < pn := by
        rw [← hpn]
        cases P with
        | nil => cases hne
        | cons => simp
      have HPN := Lib.hid hpn
      clear hne hP hpn
      go_enter Tryd.func34, Tryd.ntmps34
      go_wp2_with fail
      refine wp_scope_straight ?_
      go_wp2_with (first
        | (go_at_call 61; refine (HA.out _ HB0.out.old).mono ?_; rintro e w1 ⟨rfl, h1⟩; have H1 := Lib.hid (HB0.out.below h1); clear h1; have q2 := H1.out.q2; have q3 := H1.out.q3; simp only [])
        | (go_at_call 62; refine (HT.out _ H1.out.old).mono ?_; rintro e w2 ⟨rfl, h2⟩; have H2 := Lib.hid (H1.out.below h2); clear h2; simp only [])
        | (go_at_call 35; refine (HNW.out _ H2.out.old HH2.out).mono ?_; rintro e w3 ⟨u, rfl, h3⟩; have H3 := Lib.hid h3; obtain ⟨ua, uc, hu⟩ := h3.sls.len; rw [HPN.out] at hu; subst hu; clear h3; simp only []))
      simp +zetaDelta only [Exit.noGoto_ret]
      go_ret
      exact ⟨rfl, H2.out.old.trans (H3.out.old.mono H2.out.old.size)⟩
theorem any_take_false {p : Bs → Bool} {L : List Bs} {n : Nat} (hn : L.length ≤ n) (h : ∀ j (h : j < L.length), j < n → p L[j] = false) : L.any p = false := by
  rw [List.any_eq_false]
  intro x hx
  obtain ⟨j, hj, rfl⟩ := List.mem_iff_getElem.1 hx
  rw [h j hj (by omega)]
  simp
set_option maxRecDepth 100000 in
set_option maxHeartbeats 8000000 in
theorem Old_rest (hF : Fs w B N f c T F) (hs : Nm s) (ms v nv mv : Value) (rs : List Rl) (hv : RsV w v rs) (hl : rs.length ≤ 1000) (L M : List Bs) (hnv : SlS w nv L) (hnl : L.length ≤ 1000) (hL : ∀ x ∈ L, Nm x) (hmv : SlS w mv M) (hml : M.length ≤ 1000)
    (hh1 : hasF rs phB.data.toList s = false) (hh2 : thF T s = true) (hh3 : (newerF T s L).isEmpty = true) :
    Calls Tryd.prog 34 #[.agg #[ms, v], .pointer (some ⟨f, 0, none⟩), .string ⟨#[47]⟩, .string (nameB s), nv, mv] w fun e w' => e = .returned (.bool (L.any fun x => M.contains x && badF rs T x)) ∧ Below w.heap.size w w' := by
  have HA := Lib.hid (fun (w' : World) (hb : Below w.heap.size w w') (y : Bs) (b : Bool) (hy : hasF rs phB.data.toList y = b) => Has_any ms v rs phB (nameB y) w' (hv.below hb) hl b (by rw [show (nameB y).data.toList = y by unfold nameB; simp]; exact hy))
  have HT := Lib.hid (fun (w' : World) (hb : Below w.heap.size w w') (y : Bs) (hy : Nm y) (b : Bool) (hyb : thF T y = b) => there_any (hF.below hb) hy b hyb)
  have HA0 := Lib.hid (fun w' hb => HA.out w' hb s false hh1)
  have HT0 := Lib.hid (fun w' hb => HT.out w' hb s hs true hh2)
  have HNW := Lib.hid (fun (w' : World) (hb : Below w.heap.size w w') => Newer_yes (hF.below hb) hs nv L (hnv.below hb) hnl hL hh2)
  have HSN := Lib.hid hnv
  have HSM := Lib.hid hmv
  have HL := Lib.hid hL
  unfold newerF at hh3
  rw [if_pos hh2] at hh3
  obtain ⟨P, hP⟩ : ∃ P, L.filter (fun x => decide (tmF T s < tmF T x)) = P := ⟨_, rfl⟩
  rw [hP] at hh3 HNW
  have hP0 : P = [] := List.isEmpty_iff.1 hh3
  subst hP0
  obtain ⟨a, d, rfl⟩ := hnv.len
  obtain ⟨a2, d2, rfl⟩ := hmv.len
  obtain ⟨a3, n3, c3, rfl⟩ : ∃ a n c, v = .slice a n c := by obtain ⟨a, c, rfl⟩ := hv.len; exact ⟨_, _, _, rfl⟩
  obtain ⟨nb, hnb⟩ : ∃ nb, nameB s = nb := ⟨_, rfl⟩
  rw [hnb] at HA0 HT0 HNW ⊢
  have HB0 := Lib.hid (bx2 w ms (.slice a3 n3 c3) (.pointer (some ⟨f, 0, none⟩)) (.string ⟨#[47]⟩) 45 104)
  obtain ⟨nn, hnn⟩ : ∃ nn, L.length = nn := ⟨_, rfl⟩
  obtain ⟨mm, hmm⟩ : ∃ mm, M.length = mm := ⟨_, rfl⟩
  rw [hnn] at HNW HSN hnl ⊢
  rw [hmm] at HSM hml ⊢
  have HNN := Lib.hid hnn
  have HMM := Lib.hid hmm
  have HPH : Hid (phB = ⟨#[46, 80, 72, 79, 78, 89]⟩) := rfl
  rw [HPH.out] at HA HA0
  obtain ⟨R, hR⟩ : ∃ R, (L.any fun x => M.contains x && badF rs T x) = R := ⟨_, rfl⟩
  rw [hR]
  have HR := Lib.hid hR
  clear hF hs hv hnv hL hmv hh1 hh2 hh3 hP hnb hnn hmm hR hl
  go_enter Tryd.func34, Tryd.ntmps34
  go_wp2_with fail
  refine wp_scope_straight ?_
  go_wp2_with (first
    | (go_at_call 61; refine (HA0.out _ HB0.out.old).mono ?_; rintro e w1 ⟨rfl, h1⟩; have H1 := Lib.hid (HB0.out.below h1); clear h1; have q2 := H1.out.q2; have q3 := H1.out.q3; simp only [])
    | (go_at_call 62; refine (HT0.out _ H1.out.old).mono ?_; rintro e w2 ⟨rfl, h2⟩; have H2 := Lib.hid (H1.out.below h2); clear h2; simp only [])
    | (go_at_call 35; refine (HNW.out _ H2.out.old).mono ?_; rintro e w3 ⟨u, rfl, h3⟩; have H3 := Lib.hid (H2.out.below h3.old); obtain ⟨ua, uc, hu⟩ := h3.sls.len; subst hu; clear h3; simp only [List.length_nil]))
  refine wp_label ?_
  go_wp2_with fail
  go_loopw [14, 42] (fun v14 i wr => ∃ k : Nat, k ≤ nn ∧ v14 = .bool false ∧ i = .int .i64 k ∧ Hid (∀ j (h : j < L.length), j < k → (M.contains L[j] && badF rs T L[j]) = false) ∧ Hid (Bx2 w wr ms (.slice a3 n3 c3) (.pointer (some ⟨f, 0, none⟩)) (.string ⟨#[47]⟩))) (fun _ i _ => nn - (intOf i).toNat)
  case atStart => exact ⟨0, Nat.zero_le _, rfl, rfl, fun j _ hj => absurd hj (Nat.not_lt_zero _), H3.out⟩
  case round =>
    obtain ⟨k, hk, rfl, rfl, HN, HX⟩ := hrel
    by_cases hlt : k < nn
    · have hltI : (k : Int) < (nn : Int) := by omega
      have h0 : (0 : Int) ≤ (k : Int) := by omega
      have hlr : k < L.length := by rw [HNN.out]; exact hlt
      obtain ⟨g, off, rfl, _, hc⟩ := strs_sl (HSN.out.below HX.out.old) (by omega)
      have hck := hc k hlr
      have hadd := addk g off k
      clear hc
      rw [show encStr L[k] = .string (nameB L[k]) from rfl] at hck
      obtain ⟨y, hy⟩ : ∃ y, L[k] = y := ⟨_, rfl⟩
      have HNY : Hid (Nm y) := hy ▸ HL.out _ (List.getElem_mem hlr)
      rw [hy] at hck
      have HY := Lib.hid hy
      have HNB : Hid ((nameB y).data.toList = y) := by unfold nameB; rw [Hid]
      obtain ⟨yb, hyb⟩ : ∃ yb, nameB y = yb := ⟨_, rfl⟩
      obtain ⟨t, ht⟩ : ∃ t, thF T y = t := ⟨_, rfl⟩
      obtain ⟨hb, hhb⟩ : ∃ hb, hasF rs phB.data.toList y = hb := ⟨_, rfl⟩
      have HA1 := Lib.hid (fun w' h => HA.out w' h y hb hhb)
      have HT1 := Lib.hid (fun w' h => HT.out w' h y HNY.out t ht)
      have HBAD : Hid (badF rs T y = (!t || hb)) := by unfold badF; rw [ht, hhb]; rfl
      rw [hyb] at hck HA1 HT1 HNB
      have HYB : Hid ((⟨y.toArray⟩ : ByteArray) = yb) := hyb
      have HEX : Hid (∀ (h : badF rs T y = true) (j : Nat) (hj : j < M.length), M[j] = y → R = true) := fun h j hj e => by
        rw [← HR.out, List.any_eq_true]
        exact ⟨L[k], List.getElem_mem hlr, by rw [hy, h, Bool.and_true]; exact List.contains_iff_mem.2 (e ▸ List.getElem_mem hj)⟩
      clear hy hyb ht hhb
      go_wp2_with fail
      go_loopw [14, 48] (fun v14 i wr => ∃ l : Nat, l ≤ mm ∧ v14 = .bool false ∧ i = .int .i64 l ∧ Hid (∀ j (h : j < M.length), j < l → M[j] = y → badF rs T y = false) ∧ Hid (Bx2 w wr ms (.slice a3 n3 c3) (.pointer (some ⟨f, 0, none⟩)) (.string ⟨#[47]⟩))) (fun _ i _ => mm - (intOf i).toNat)
      case atStart => exact ⟨0, Nat.zero_le _, rfl, rfl, fun j _ hj => absurd hj (Nat.not_lt_zero _), HX.out⟩
      case round =>
        obtain ⟨l, hl2, rfl, rfl, HM, HZ⟩ := hrel
        by_cases hlt2 : l < mm
        · have hltJ : (l : Int) < (mm : Int) := by omega
          have l0 : (0 : Int) ≤ (l : Int) := by omega
          have hlm : l < M.length := by rw [HMM.out]; exact hlt2
          obtain ⟨g2, off2, rfl, _, hc2⟩ := strs_sl (HSM.out.below HZ.out.old) (by omega)
          have hcl := hc2 l hlm
          have hadd2 := addk g2 off2 l
          have q0 := HZ.out.q0
          have q1 := HZ.out.q1
          have q2 := HZ.out.q2
          have q3 := HZ.out.q3
          clear hc2
          rw [show encStr M[l] = .string ⟨M[l].toArray⟩ from rfl] at hcl
          by_cases hxy : M[l] = y
          · have HXY := Lib.hid hxy
            rw [hxy, HYB.out] at hcl
            clear hxy
            cases t with
            | false =>
              have HRT : Hid (R = true) := HEX.out (by rw [HBAD.out]; rfl) l hlm HXY.out
              go_wp2_with (go_at_call 62; refine (HT1.out _ HZ.out.old).mono ?_; rintro e w5 ⟨rfl, h5⟩; have H5 := Lib.hid (HZ.out.below h5); clear h5; simp only [])
              (try simp +zetaDelta only [Exit.noGoto_ret])
              go_ret
              exact ⟨by rw [HRT.out]; rfl, H5.out.old⟩
            | true =>
              cases hb with
              | true =>
                have HRT : Hid (R = true) := HEX.out (by rw [HBAD.out]; rfl) l hlm HXY.out
                go_wp2_with (first
                  | (go_at_call 62; refine (HT1.out _ HZ.out.old).mono ?_; rintro e w5 ⟨rfl, h5⟩; have H5 := Lib.hid (HZ.out.below h5); clear h5; have u0 := H5.out.q0; have u1 := H5.out.q1; simp only [])
                  | (go_at_call 61; refine (HA1.out _ H5.out.old).mono ?_; rintro e w6 ⟨rfl, h6⟩; have H6 := Lib.hid (H5.out.below h6); clear h6; simp only []))
                (try simp +zetaDelta only [Exit.noGoto_ret])
                go_ret
                exact ⟨by rw [HRT.out]; rfl, H6.out.old⟩
              | false =>
                have HM2 : Hid (∀ j (h : j < M.length), j < l + 1 → M[j] = y → badF rs T y = false) := fun j h hj e => by rw [HBAD.out]; rfl
                go_wp2_with (first
                  | (go_at_call 62; refine (HT1.out _ HZ.out.old).mono ?_; rintro e w5 ⟨rfl, h5⟩; have H5 := Lib.hid (HZ.out.below h5); clear h5; have u0 := H5.out.q0; have u1 := H5.out.q1; simp only [])
                  | (go_at_call 61; refine (HA1.out _ H5.out.old).mono ?_; rintro e w6 ⟨rfl, h6⟩; have H6 := Lib.hid (H5.out.below h6); clear h6; simp only []))
                exact ⟨⟨l + 1, by omega, rfl, by go_num, HM2.out, H6.out⟩, by simp [intOf]; omega⟩
          · have hne : ((⟨M[l].toArray⟩ : ByteArray).toList == yb.toList) = false := by
              rw [← HYB.out, beq_eq_false_iff_ne, Lib.toList_data, Lib.toList_data]
              intro e; exact hxy (by simpa using e)
            have HM2 : Hid (∀ j (h : j < M.length), j < l + 1 → M[j] = y → badF rs T y = false) := fun j h hj e => by
              by_cases e2 : j = l
              · subst e2; exact absurd e hxy
              · exact HM.out j h (by omega) e
            obtain ⟨zb, hzb⟩ : ∃ zb : ByteArray, ⟨M[l].toArray⟩ = zb := ⟨_, rfl⟩
            rw [hzb] at hcl hne
            clear hxy hzb
            go_wp2_with fail
            exact ⟨⟨l + 1, by omega, rfl, by go_num, HM2.out, HZ.out⟩, by simp [intOf]; omega⟩
        · have hltJ : ¬ (l : Int) < (mm : Int) := by omega
          have HN2 : Hid (∀ j (h : j < L.length), j < k + 1 → (M.contains L[j] && badF rs T L[j]) = false) := fun j h hj => by
            by_cases e : j = k
            · subst e
              rw [HY.out]
              by_cases hm : M.contains y = true
              · obtain ⟨i, hi, e2⟩ := List.mem_iff_getElem.1 (List.contains_iff_mem.1 hm)
                rw [HM.out i hi (by have := HMM.out; omega) e2, Bool.and_false]
              · rw [Bool.not_eq_true] at hm
                rw [hm, Bool.false_and]
            · exact HN.out j h (by omega)
          go_wp2_with fail
          exact ⟨⟨k + 1, by omega, rfl, by go_num, HN2.out, HZ.out⟩, by simp [intOf]; omega⟩
    · have hltI : ¬ (k : Int) < (nn : Int) := by omega
      go_wp2_with fail
      (try simp +zetaDelta only [Exit.noGoto_ret])
      go_ret
      refine ⟨?_, HX.out.old⟩
      rw [← HR.out, any_take_false (n := nn) (by rw [HNN.out]; exact Nat.le_refl _) (fun j h hj => HN.out j h (by omega))]; rfl
end
end Go.Proofs.YtjagnihkpgbjeaaDoor

namespace Go.Proofs.YtjagnihkpgbjeaaDoor
open Go.RowKit Go.Maps Go.ChangeMaps
set_option linter.unusedVariables false
theorem Old_any {w : World} {B N f : Nat} {c : Cn} {T : Tr} {F : Nat → Prop} {s : Bz} (hF : Fs w B N f c T F) (hs : Nm s) (ms v nv mv : Value) (rs : List Rl) (hv : RsV w v rs) (hl : rs.length ≤ 1000) (L M : List Bs) (hnv : SlS w nv L) (hnl : L.length ≤ 1000) (hL : ∀ x ∈ L, Nm x) (hmv : SlS w mv M) (hml : M.length ≤ 1000)
    (b : Bool) (hb : oldF rs T s L M = b) :
    Calls Tryd.prog 34 #[.agg #[ms, v], .pointer (some ⟨f, 0, none⟩), .string ⟨#[47]⟩, .string (nameB s), nv, mv] w fun e w' => e = .returned (.bool b) ∧ Below w.heap.size w w' := by
  unfold oldF at hb
  cases h1 : hasF rs phB.data.toList s with
  | true =>
    rw [h1] at hb
    rw [← hb]
    exact Old_first hF hs ms v nv mv rs hv hl L hnv hnl hL (by rw [h1]; rfl)
  | false =>
    cases h2 : thF T s with
    | false =>
      rw [h1, h2] at hb
      rw [← hb]
      exact Old_first hF hs ms v nv mv rs hv hl L hnv hnl hL (by rw [h1, h2]; rfl)
    | true =>
      cases h3 : (newerF T s L).isEmpty with
      | false =>
        rw [h1, h2, h3] at hb
        rw [← hb]
        exact Old_first hF hs ms v nv mv rs hv hl L hnv hnl hL (by rw [h1, h2, h3]; rfl)
      | true =>
        rw [h1, h2, h3] at hb
        simp only [Bool.false_or, Bool.not_true] at hb
        rw [← hb]
        exact Old_rest hF hs ms v nv mv rs hv hl L M hnv hnl hL hmv hml h1 h2 h3
theorem New_small (n m : Int) (hn0 : 0 ≤ n) (hn : n ≤ 10000) (hm0 : 0 ≤ m) (hm : m ≤ 1048576) (w : World) {B : Nat} (hB : B ≤ w.heap.size) : Calls Tryd.prog 13 #[.int .i64 n, .int .i64 m] w fun e w1 => ∃ f, e = .returned (.pointer (some ⟨f, 0, none⟩)) ∧ Fs w1 B 0 f ⟨n, m, 0, 0, 0⟩ newT (fun j => w.heap.size ≤ j ∧ j < w1.heap.size) ∧ Below w.heap.size w w1 := by
  refine (New_any n m w (B := B) (N := 0) hB).mono ?_
  rintro e w1 ⟨f, h1, h2, h3⟩
  rw [show min (max n 0) 10000 = n by omega, show min (max m 0) 1048576 = m by omega] at h2
  exact ⟨f, h1, h2.cap, h3⟩
section
variable {w : World} {B N f : Nat} {c : Cn} {T : Tr} {F : Nat → Prop} {s : Bz}
theorem WriteN (hF : Fs w B N f c T F) (hs : Nm s) (hn : T [s] = none) (hc : c.Ok) (hN : N < maxLen) (hB : B ≤ w.heap.size) (hfull : ¬ c.nodes ≤ c.count) (hroom : c.size ≤ c.bytes) :
    Calls Tryd.prog 15 #[.pointer (some ⟨f, 0, none⟩), .string (pathB s), .slice none 0 0, .bool false] w (MutP w B N f F 0 (setF T [s] (some ⟨true, [], c.clock + 1⟩)) { c with count := c.count + 1, size := c.size, clock := c.clock + 1 }) := by
  obtain ⟨e1, e2, e3⟩ := nm_one hs
  have := Write_new w (pathB s) false hF e3 hc hN hB (e2 T) (by rw [e1]; exact hn) [] none 0 ⟨none, 0, rfl, fun i h => absurd h (by simp)⟩ (fun a h => by cases h) (by simp) hfull (by simp; omega)
  rw [e1] at this
  simpa using this
theorem TouchN (hF : Fs w B N f c T F) (hs : Nm s) (hn : T [s] = none) (hc : c.Ok) (hN : N < maxLen) (hB : B ≤ w.heap.size) (hfull : ¬ c.nodes ≤ c.count) (hroom : c.size ≤ c.bytes) :
    Calls Tryd.prog 21 #[.pointer (some ⟨f, 0, none⟩), .string (pathB s)] w (MutP w B N f F 0 (setF T [s] (some ⟨true, [], c.clock + 1⟩)) { c with count := c.count + 1, size := c.size, clock := c.clock + 1 }) := by
  obtain ⟨e1, e2, e3⟩ := nm_one hs
  have := Touch_new (p := pathB s) hF e3 hc hN hB (e2 T) (by rw [e1]; exact hn) hfull hroom
  rw [e1] at this
  simpa using this
theorem TouchO {n : Nd} (hF : Fs w B N f c T F) (hs : Nm s) (hn : T [s] = some n) (hc : c.Ok) :
    Calls Tryd.prog 21 #[.pointer (some ⟨f, 0, none⟩), .string (pathB s)] w (MutP w B N f F 0 (setF T [s] (some { n with time := c.clock + 1 })) { c with clock := c.clock + 1 }) := by
  obtain ⟨e1, e2, e3⟩ := nm_one hs
  have := Touch_old (n := n) (p := pathB s) hF e3 hc (e2 T) (by rw [e1]; simp) (by rw [e1]; exact hn)
  rw [e1] at this
  exact this
end
theorem MutP.fs {w w' : World} {B N f : Nat} {F : Nat → Prop} {er : Int} {T : Tr} {c : Cn} {e : Ending} (h : MutP w B N f F er T c e w') : e = .returned (.int .i64 er) ∧ Fs w' B (N + 1) f c T (fun j => (F j ∨ w.heap.size ≤ j) ∧ j < w'.heap.size) ∧ Only F w w' :=
  ⟨h.1, h.2.1.cap, h.2.2⟩
def mk0 : Value := .agg #[.slice none 0 0, .slice none 0 0]
theorem nmA : Nm [97] := ⟨by decide, by decide, by decide, by decide, by decide, by decide⟩
theorem nmB : Nm [98] := ⟨by decide, by decide, by decide, by decide, by decide, by decide⟩
theorem nmC : Nm [99] := ⟨by decide, by decide, by decide, by decide, by decide, by decide⟩
theorem rs0 (w : World) : RsV w (.slice none 0 0) [] := .inl ⟨rfl, rfl⟩
theorem sl0 (w : World) : SlS w (.slice none 0 0) [] := .inl ⟨rfl, rfl⟩
theorem OldA {w : World} {B N f : Nat} {c : Cn} {T : Tr} {F : Nat → Prop} (hF : Fs w B N f c T F) (v nv mv : Value) (rs : List Rl) (hv : RsV w v rs) (hl : rs.length ≤ 1000) (L M : List Bs) (hnv : SlS w nv L) (hnl : L.length ≤ 1000) (hL : ∀ x ∈ L, Nm x) (hmv : SlS w mv M) (hml : M.length ≤ 1000)
    (b : Bool) (hb : oldF rs T [97] L M = b) :
    Calls Tryd.prog 34 #[.agg #[.slice none 0 0, v], .pointer (some ⟨f, 0, none⟩), .string ⟨#[47]⟩, .string ⟨#[97]⟩, nv, mv] w fun e w' => e = .returned (.bool b) ∧ Below w.heap.size w w' :=
  Old_any (s := [97]) hF nmA (.slice none 0 0) v nv mv rs hv hl L M hnv hnl hL hmv hml b hb
theorem OldB {w : World} {B N f : Nat} {c : Cn} {T : Tr} {F : Nat → Prop} (hF : Fs w B N f c T F) (v nv mv : Value) (rs : List Rl) (hv : RsV w v rs) (hl : rs.length ≤ 1000) (L M : List Bs) (hnv : SlS w nv L) (hnl : L.length ≤ 1000) (hL : ∀ x ∈ L, Nm x) (hmv : SlS w mv M) (hml : M.length ≤ 1000)
    (b : Bool) (hb : oldF rs T [98] L M = b) :
    Calls Tryd.prog 34 #[.agg #[.slice none 0 0, v], .pointer (some ⟨f, 0, none⟩), .string ⟨#[47]⟩, .string ⟨#[98]⟩, nv, mv] w fun e w' => e = .returned (.bool b) ∧ Below w.heap.size w w' :=
  Old_any (s := [98]) hF nmB (.slice none 0 0) v nv mv rs hv hl L M hnv hnl hL hmv hml b hb
/-- A file is written: a state's way on. -/
structure Sx (B : Nat) (w : World) (N f : Nat) (c : Cn) (T : Tr) : Prop where
  fs : ∃ F : Nat → Prop, Fs w B N f c T F ∧ ∀ j, F j → B ≤ j ∧ j < w.heap.size
  le : B ≤ w.heap.size
theorem Sx.below {B : Nat} {w w' : World} {N f : Nat} {c : Cn} {T : Tr} (h : Sx B w N f c T) (hb : Below w.heap.size w w') : Sx B w' N f c T := by
  obtain ⟨⟨F, h1, h2⟩, h3⟩ := h
  exact ⟨⟨F, h1.below hb, fun j hj => ⟨(h2 j hj).1, Nat.lt_of_lt_of_le (h2 j hj).2 hb.size⟩⟩, Nat.le_trans h3 hb.size⟩
theorem New_sx (n m : Int) (hn0 : 0 ≤ n) (hn : n ≤ 10000) (hm0 : 0 ≤ m) (hm : m ≤ 1048576) (w : World) : Calls Tryd.prog 13 #[.int .i64 n, .int .i64 m] w fun e w1 => ∃ f, e = .returned (.pointer (some ⟨f, 0, none⟩)) ∧ Sx w.heap.size w1 0 f ⟨n, m, 0, 0, 0⟩ newT ∧ Below w.heap.size w w1 := by
  refine (New_small n m hn0 hn hm0 hm w (B := w.heap.size) (Nat.le_refl _)).mono ?_
  rintro e w1 ⟨f, h1, h2, h3⟩
  exact ⟨f, h1, ⟨⟨_, h2, fun j hj => hj⟩, h3.size⟩, h3⟩
theorem Sx.mut {B : Nat} {w w' : World} {N f : Nat} {c c' : Cn} {T T' : Tr} {F : Nat → Prop} {er : Int} {e : Ending} (h1 : Fs w B N f c T F) (h2 : ∀ j, F j → B ≤ j ∧ j < w.heap.size) (h3 : B ≤ w.heap.size) (h : MutP w B N f F er T' c' e w') :
    e = .returned (.int .i64 er) ∧ Sx B w' (N + 1) f c' T' ∧ Below B w w' := by
  obtain ⟨e1, e2, e3⟩ := h.fs
  refine ⟨e1, ⟨⟨_, e2, fun j hj => ⟨?_, hj.2⟩⟩, Nat.le_trans h3 e3.size⟩, e3.below (fun k hk => (h2 k hk).1) h3⟩
  rcases hj.1 with h | h
  · exact (h2 j h).1
  · exact Nat.le_trans h3 h
theorem Write_sx {B : Nat} {w : World} {N f : Nat} {c : Cn} {T : Tr} {s : Bz} (h : Sx B w N f c T) (hs : Nm s) (hn : T [s] = none) (hc : c.Ok) (hN : N < maxLen) (hfull : ¬ c.nodes ≤ c.count) (hroom : c.size ≤ c.bytes) :
    Calls Tryd.prog 15 #[.pointer (some ⟨f, 0, none⟩), .string (pathB s), .slice none 0 0, .bool false] w fun e w' => e = .returned (.int .i64 0) ∧ Sx B w' (N + 1) f ⟨c.nodes, c.bytes, c.count + 1, c.size, c.clock + 1⟩ (setF T [s] (some ⟨true, [], c.clock + 1⟩)) ∧ Below B w w' := by
  obtain ⟨⟨F, h1, h2⟩, h3⟩ := h
  refine (WriteN h1 hs hn hc hN h3 hfull hroom).mono ?_
  intro e w' hm
  exact Sx.mut h1 h2 h3 hm
set_option maxRecDepth 100000 in
set_option maxHeartbeats 4000000 in
theorem alive33 (w : World) : Calls Tryd.prog 33 #[] w fun e w' => e = .returned (.bool true) ∧ Below w.heap.size w w' := by
  have HNEW := Lib.hid (New_sx 3 10 (by omega) (by omega) (by omega) (by omega) w)
  have HO1 := Lib.hid (fun (w1 : World) (f : Nat) (h : Sx w.heap.size w1 0 f ⟨3, 10, 0, 0, 0⟩ newT) => by
    obtain ⟨F, h1, h2⟩ := h.fs
    exact OldA h1 (.slice none 0 0) (.slice none 0 0) (.slice none 0 0) [] (rs0 _) (by simp) [] [] (sl0 _) (by simp) (by simp) (sl0 _) (by simp) true (by decide))
  have HW1 := Lib.hid (fun (w1 : World) (f : Nat) (h : Sx w.heap.size w1 0 f ⟨3, 10, 0, 0, 0⟩ newT) => Write_sx (s := [97]) h nmA rfl ⟨by decide, by decide, by decide, by decide, by decide⟩ (by decide) (by decide) (by decide))
  have HO2 := Lib.hid (fun (w1 : World) (f : Nat) (h : Sx w.heap.size w1 1 f ⟨3, 10, 0 + 1, 0, 0 + 1⟩ (setF newT [[97]] (some ⟨true, [], 0 + 1⟩))) => by
    obtain ⟨F, h1, h2⟩ := h.fs
    exact OldA h1 (.slice none 0 0) (.slice none 0 0) (.slice none 0 0) [] (rs0 _) (by simp) [] [] (sl0 _) (by simp) (by simp) (sl0 _) (by simp) false (by decide))
  rw [show pathB [97] = ⟨#[47, 97]⟩ from rfl] at HW1
  go_enter Tryd.func33, Tryd.ntmps33
  go_wp2_with (first
    | (go_at_call 13; refine HNEW.out.mono ?_; rintro e w1 ⟨f, rfl, hf, h1⟩; have HF := Lib.hid hf; have H1 := Lib.hid h1; clear hf h1; simp only [])
    | (go_at_call 15; ((with_reducible refine (HW1.out _ _ (HF.out.below H2.out)).mono ?_)); rintro e w3 ⟨rfl, hf3, h3⟩; have HF3 := Lib.hid hf3; have H3 := Lib.hid h3; clear h3 hf3; simp only [])
    | (go_at_call 34; ((with_reducible refine (HO2.out _ _ HF3.out).mono ?_)); rintro e w4 ⟨rfl, h4⟩; have H4 := Lib.hid h4; clear h4; simp only [])
    | (go_at_call 34; ((with_reducible refine (HO1.out _ _ HF.out).mono ?_)); rintro e w2 ⟨rfl, h2⟩; have H2 := Lib.hid h2; clear h2; simp only []))
  go_ret
  exact ⟨rfl, (H1.out.trans (H2.out.mono HF.out.le)).trans (H3.out.trans (H4.out.mono HF3.out.le))⟩
end Go.Proofs.YtjagnihkpgbjeaaDoor
