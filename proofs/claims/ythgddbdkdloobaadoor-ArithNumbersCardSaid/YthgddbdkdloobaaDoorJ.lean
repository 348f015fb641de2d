import Derived.Test.YthgddbdkdloobaaDoorI
namespace Go.Proofs.YthgddbdkdloobaaDoor
open Go.RowKit
set_option linter.unusedVariables false

theorem valOf_eq (x : Bs) : valOf x = if trim x = [] then some 0 else
    if 1 ≤ (Lib.trimPrefix (trim x) [45]).length ∧ (Lib.trimPrefix (trim x) [45]).all isDig = true then
      (if Lib.hasPrefix (trim x) [45] = true then some (wr (-(num (Lib.trimPrefix (trim x) [45])))) else some (num (Lib.trimPrefix (trim x) [45]))) else none := by
  unfold valOf
  generalize trim x = v
  simp only
  cases v with
  | nil => rfl
  | cons c t =>
    rw [if_neg (List.cons_ne_nil c t), if_neg (List.cons_ne_nil c t)]
    by_cases hc : c = 45
    · subst hc
      have h1 : Lib.hasPrefix (45 :: t) [45] = true := by simp [Lib.hasPrefix]
      have h2 : Lib.trimPrefix (45 :: t) [45] = t := by unfold Lib.trimPrefix; rw [if_pos h1]; rfl
      rw [h1, h2, if_pos (show (45 :: t).headD 0 = 45 from rfl), if_pos (show true = true from rfl)]
      rfl
    · have h1 : Lib.hasPrefix (c :: t) [45] = false := by
        simp only [Lib.hasPrefix, List.isPrefixOf, Bool.and_true, beq_eq_false_iff_ne]
        exact fun e => hc e.symm
      have h2 : Lib.trimPrefix (c :: t) [45] = c :: t := by unfold Lib.trimPrefix; rw [if_neg (by rw [h1]; exact Bool.false_ne_true)]
      rw [h1, h2, if_neg (show ¬ (c :: t).headD 0 = 45 from hc), if_neg (show ¬ false = true by decide)]
      by_cases ha : (c :: t).all isDig = true
      · rw [if_pos ha, if_pos ⟨by simp, ha⟩]
      · rw [if_neg ha, if_neg (fun e => ha e.2)]
/-- The end of 'named', at what was found. -/
theorem tail_facts (x : Bs) : ∃ (v d : ByteArray) (neg ok : Bool), v = ⟨(trim x).toArray⟩ ∧ d = ⟨(Lib.trimPrefix (trim x) [45]).toArray⟩ ∧ neg = Lib.hasPrefix (trim x) [45] ∧ ok = (decide (1 ≤ d.size) && d.data.toList.all isDig) ∧
    valOf x = (if v.data.toList = [] then some 0 else if ok = true then (if neg = true then some (wr (-(num d.data.toList))) else some (num d.data.toList)) else none) ∧
    (∀ w, Calls Tryd.prog 59 #[.string v, .string ⟨#[45]⟩] w fun e w' => e = .returned (.tuple #[.string d, .bool neg]) ∧ w' = w) ∧ d.size ≤ (trim x).length := by
  refine ⟨_, _, _, _, rfl, rfl, rfl, rfl, ?_, fun w => Tryd.strings_CutPrefix ⟨(trim x).toArray⟩ ⟨#[45]⟩ w, ?_⟩
  · rw [valOf_eq]
    show _ = (if trim x = [] then _ else if (decide (1 ≤ (Lib.trimPrefix (trim x) [45]).length) && (Lib.trimPrefix (trim x) [45]).all isDig) = true then _ else _)
    split
    · rfl
    · simp only [Bool.and_eq_true, decide_eq_true_eq]
  · show (Lib.trimPrefix (trim x) [45]).length ≤ _
    unfold Lib.trimPrefix
    split
    · rw [List.length_drop]; omega
    · exact Nat.le_refl _
theorem trim_len (l : Bs) : (trim l).length ≤ l.length := by
  unfold trim
  rw [List.length_reverse]
  have h1 := (List.dropWhile_suffix isBl (l := (l.dropWhile isBl).reverse)).length_le
  have h2 := (List.dropWhile_suffix isBl (l := l)).length_le
  rw [List.length_reverse] at h1
  omega
set_option maxRecDepth 100000 in
set_option maxHeartbeats 4000000 in
theorem named_any (name : ByteArray) (l : Prs) (s : ByteArray) (pv : Value) (p d : Nat) (z : Bool) (B : Nat) (w : World) (hn : name.size ≤ 1000000) (h : Rd w B s pv p d z) (hp : PV B w pv l) :
    Calls Tryd.prog 50 #[.pointer (some ⟨B, 0, none⟩), .string name] w fun e w' => e = .returned (encV (valOf (look (bsl l) name.data.toList))) ∧ Below w.heap.size w w' := by
  have c2 := h.c2
  have hlen := hp.len
  have hsz := hp.sz
  rcases hp.at' with ⟨o0, c0, rfl, rfl⟩ | ⟨b, off, cap, rfl, hb, hbB, hcell⟩
  · have e : valOf (look (bsl []) name.data.toList) = some 0 := rfl
    rw [e]
    clear h hp hsz hlen
    go_enter Tryd.func50, Tryd.ntmps50
    have HCP : Hid (∀ w, Calls Tryd.prog 59 #[.string ⟨#[]⟩, .string ⟨#[45]⟩] w fun e w' => e = .returned (.tuple #[.string ⟨#[]⟩, .bool false]) ∧ w' = w) := fun w => Tryd.strings_CutPrefix ⟨#[]⟩ ⟨#[45]⟩ w
    go_wp2_with fail
    refine wp_loop_rounds 1 ?_
    rw [rounds_succ]
    go_wp2_with fail
    refine (HCP.out _).mono ?_
    rintro e w1 ⟨rfl, h⟩
    obtain rfl := h.symm
    go_wp2_with fail
    go_ret2
    exact ⟨rfl, Below.refl _ _⟩
  · obtain ⟨R, hR⟩ : ∃ R, valOf (look (bsl l) name.data.toList) = R := ⟨_, rfl⟩
    rw [hR]
    have HR := Lib.hid hR
    have HSZ := Lib.hid hsz
    have HC := Lib.hid hcell
    have hl0 : (0 : Int) ≤ (l.length : Int) := by omega
    have hl1 : (l.length : Int) ≤ 9223372036854775807 := by omega
    have hbl : (bsl l).length = l.length := by unfold bsl; rw [List.length_map]
    have HBL := Lib.hid hbl
    clear hR hsz hcell h hp hbl
    go_enter Tryd.func50, Tryd.ntmps50
    go_wp2_with fail
    go_loop [6, 7] (fun v i => ∃ k : Nat, k ≤ l.length ∧ v = .string ⟨#[]⟩ ∧ i = .int .i64 ((k : Int) - 1) ∧ Hid (∀ j (hj : j < (bsl l).length), k ≤ j → (bsl l)[j].1 ≠ name.data.toList)) (fun _ i => (intOf i + 1).toNat)
    case atStart => exact ⟨l.length, Nat.le_refl _, rfl, rfl, fun j hj h => by rw [HBL.out] at hj; omega⟩
    case round =>
      obtain ⟨k, hk, rfl, rfl, HN⟩ := hrel
      by_cases hk0 : k = 0
      · subst hk0
        have HE : Hid (R = some 0) := by
          rw [Hid, ← HR.out, look_at (i := 0) (fun j hj h => HN.out j hj h)]; rfl
        have HCP : Hid (∀ w, Calls Tryd.prog 59 #[.string ⟨#[]⟩, .string ⟨#[45]⟩] w fun e w' => e = .returned (.tuple #[.string ⟨#[]⟩, .bool false]) ∧ w' = w) := fun w => Tryd.strings_CutPrefix ⟨#[]⟩ ⟨#[45]⟩ w
        rw [show (((0 : Nat) : Int) - 1) = -1 from rfl]
        go_wp2_with fail
        refine (HCP.out _).mono ?_
        rintro e w1 ⟨rfl, h⟩
        obtain rfl := h.symm
        go_wp2_with fail
        go_ret2
        exact ⟨by rw [HE.out]; rfl, Below.refl _ _⟩
      · obtain ⟨m, rfl⟩ : ∃ m, k = m + 1 := ⟨k - 1, by omega⟩
        have hm : m < l.length := by omega
        obtain ⟨x1, x2⟩ := HC.out m hm
        have hmem := HSZ.out _ (List.getElem_mem hm)
        have hb1 : (bsl l)[m]? = some (l[m].1.data.toList, l[m].2.data.toList) := by unfold bsl; rw [List.getElem?_map, List.getElem?_eq_getElem hm]; rfl
        obtain ⟨nm, hnm⟩ : ∃ nm, l[m].1 = nm := ⟨_, rfl⟩
        obtain ⟨vl, hvl⟩ : ∃ vl, l[m].2 = vl := ⟨_, rfl⟩
        rw [hnm] at x1 hb1
        rw [hvl] at x2 hb1 hmem
        have HB1 := Lib.hid hb1
        have hi : (((m + 1 : Nat) : Int) - 1) = (m : Int) := by omega
        rw [hi]
        have hmI : (m : Int) < (l.length : Int) := by omega
        clear hnm hvl hi hk hk0 hb1
        cases heq : (nm.toList == name.toList) with
        | false =>
          have HN2 : Hid (∀ j (hj : j < (bsl l).length), m ≤ j → (bsl l)[j].1 ≠ name.data.toList) := by
            intro j hj h
            by_cases hjm : j = m
            · subst hjm
              have := HB1.out
              rw [List.getElem?_eq_getElem hj] at this
              rw [Option.some.inj this]
              rw [beq_eq_false_iff_ne, Lib.toList_data, Lib.toList_data] at heq
              exact heq
            · exact HN.out j hj (by omega)
          go_wp2_with fail
          exact ⟨⟨m, by omega, rfl, rfl, HN2⟩, by simp [intOf]⟩
        | true =>
          have HE : Hid (R = valOf vl.data.toList) := by
            have hm2 : m < (bsl l).length := by rw [HBL.out]; exact hm
            have hbm := HB1.out
            rw [List.getElem?_eq_getElem hm2] at hbm
            have hbm := Option.some.inj hbm
            rw [Hid, ← HR.out, look_at (i := m + 1) (fun j hj h => HN.out j hj h), look_here hm2 (by rw [hbm]; rw [beq_iff_eq, Lib.toList_data, Lib.toList_data] at heq; exact heq), hbm]
          obtain ⟨v, dg, neg, ok, e1, e2, e3, e4, e5, hcp, hdl⟩ := tail_facts vl.data.toList
          have HCP := Lib.hid hcp
          have HTR := Lib.hid (fun w => Trim_any vl w (by omega))
          rw [← e1] at HTR
          have htl := trim_len vl.data.toList
          rw [dlen] at htl
          have hdsz : dg.size ≤ 9223372036854775807 := by omega
          have HNU := Lib.hid (fun w => Number_any dg w (by omega))
          rw [← e4] at HNU
          have HNM : Hid (ok = true → ∀ w, Calls Tryd.prog 48 #[.string dg] w fun e w' => e = .returned (.int .i64 (num dg.data.toList)) ∧ w' = w) := by
            intro h w
            rw [e4, Bool.and_eq_true] at h
            exact number_any dg w (by omega) (fun c hc => List.all_eq_true.1 h.2 c hc)
          rw [e5] at HE
          have hv := dlen v
          clear e1 e2 e3 e4 e5 hcp hdl htl
          obtain ⟨N, hN⟩ : ∃ N, num dg.data.toList = N := ⟨_, rfl⟩
          rw [hN] at HE HNM
          clear hN
          by_cases hv0 : v.data.toList = []
          · have g1 : (v.toList == []) = true := by rw [str_eq, decide_eq_true hv0]
            have g2 : v.toList.isEmpty = true := by rw [Lib.toList_data, hv0]; rfl
            have g3 : v.toList = [] := by rw [Lib.toList_data, hv0]
            rw [if_pos hv0] at HE
            have hvb : v = ⟨#[]⟩ := bs_ext hv0
            subst hvb
            clear hv hv0 g1 g2 g3
            go_wp2_with fail
            refine (HTR.out _).mono ?_
            rintro e w1 ⟨rfl, hB⟩
            have HB := Lib.hid hB
            clear hB
            go_wp2_with fail
            refine (HCP.out _).mono ?_
            rintro e w2 ⟨rfl, h⟩
            obtain rfl := h.symm
            go_wp2_with fail
            go_ret2
            exact ⟨by rw [HE.out]; rfl, HB.out⟩
          · have g1 : (v.toList == []) = false := by rw [str_eq, decide_eq_false hv0]
            have g2 : v.toList.isEmpty = false := by
              rw [Lib.toList_data]
              cases hh : v.data.toList with
              | nil => exact absurd hh hv0
              | cons a t => rfl
            rw [if_neg hv0] at HE
            clear hv hv0
            cases ok with
            | false =>
              rw [if_neg (show ¬ (false : Bool) = true by decide)] at HE
              go_wp2_with fail
              refine (HTR.out _).mono ?_
              rintro e w1 ⟨rfl, hB⟩
              have HB := Lib.hid hB
              clear hB
              go_wp2_with fail
              refine (HCP.out _).mono ?_
              rintro e w2 ⟨rfl, h⟩
              obtain rfl := h.symm
              go_wp2_with fail
              refine (HNU.out _).mono ?_
              rintro e w2 ⟨rfl, h⟩
              obtain rfl := h.symm
              go_wp2_with fail
              go_ret2
              exact ⟨by rw [HE.out]; rfl, HB.out⟩
            | true =>
              rw [if_pos (show (true : Bool) = true from rfl)] at HE
              cases neg with
              | false =>
                rw [if_neg (show ¬ (false : Bool) = true by decide)] at HE
                go_wp2_with fail
                refine (HTR.out _).mono ?_
                rintro e w1 ⟨rfl, hB⟩
                have HB := Lib.hid hB
                clear hB
                go_wp2_with fail
                refine (HCP.out _).mono ?_
                rintro e w2 ⟨rfl, h⟩
                obtain rfl := h.symm
                go_wp2_with fail
                refine (HNU.out _).mono ?_
                rintro e w2 ⟨rfl, h⟩
                obtain rfl := h.symm
                go_wp2_with fail
                refine (HNM.out trivial _).mono ?_
                rintro e w2 ⟨rfl, h⟩
                obtain rfl := h.symm
                go_wp2_with fail
                go_ret2
                exact ⟨by rw [HE.out]; rfl, HB.out⟩
              | true =>
                rw [if_pos (show (true : Bool) = true from rfl)] at HE
                go_wp2_with fail
                refine (HTR.out _).mono ?_
                rintro e w1 ⟨rfl, hB⟩
                have HB := Lib.hid hB
                clear hB
                go_wp2_with fail
                refine (HCP.out _).mono ?_
                rintro e w2 ⟨rfl, h⟩
                obtain rfl := h.symm
                go_wp2_with fail
                refine (HNU.out _).mono ?_
                rintro e w2 ⟨rfl, h⟩
                obtain rfl := h.symm
                go_wp2_with fail
                refine (HNM.out trivial _).mono ?_
                rintro e w2 ⟨rfl, h⟩
                obtain rfl := h.symm
                go_wp2_with fail
                go_ret2
                exact ⟨by rw [HE.out]; rfl, HB.out⟩
end Go.Proofs.YthgddbdkdloobaaDoor
