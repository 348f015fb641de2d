import Derived.Test.YthbemfpoanmjcaaDoorAE
namespace Go.Proofs.YthbemfpoanmjcaaDoor
open Go.RowKit
set_option linter.unusedVariables false

theorem Wn.form {w0 w : World} {v : Value} {l : List ByteArray} (h : Wn w0 w v l) : ∃ a c, v = .slice a l.length c := by
  obtain ⟨a, c, h1, _⟩ := h.txt.form
  exact ⟨a, c, h1⟩
theorem Wn.store {w0 w : World} {g n cap : Nat} {l : List ByteArray} (h : Wn w0 w (.slice (some ⟨g, 0, none⟩) n cap) l) (hn : n = l.length) (k : Nat) (x : ByteArray) : Wn w0 (w.setCell ⟨g, k, none⟩ (.string x)) (.slice (some ⟨g, 0, none⟩) n cap) (l.set k x) := by
  subst hn
  have hs := h.own.stored k (.string x)
  refine ⟨?_, h.old.trans ((Only.of_grown (S := fun i => i = g) hs.2 (fun k hk => by injection hk with e; exact e.symm)).below (fun i hi => by rw [hi]; exact (h.own.lt g rfl).1) h.old.size)⟩
  rw [List.length_set, List.map_set]; exact hs.1
theorem str_yes {a b : ByteArray} (h : a = b) : (a.toList == b.toList) = true := by rw [h]; simp
theorem str_no {a b : ByteArray} (h : a ≠ b) : (a.toList == b.toList) = false := by
  rw [str_eq]
  exact beq_eq_false_iff_ne.2 fun e => h (ba_ext e)
/-- The words so far exchanged with a % ahead. -/
def wts (l : List ByteArray) (fr tt : ByteArray) (k : Nat) : List ByteArray := (l.take k).map (swQ fr tt) ++ (l.drop k).map fun x => sw1 x fr tt
theorem wts_len (l : List ByteArray) (fr tt : ByteArray) (k : Nat) : (wts l fr tt k).length = l.length := by
  unfold wts; rw [List.length_append, List.length_map, List.length_map, ← List.length_append, List.take_append_drop]
theorem wts_next (l : List ByteArray) (fr tt : ByteArray) {k : Nat} (h : k < l.length) (y : ByteArray) (hy : y = swQ fr tt l[k]) : (wts l fr tt k).set k y = wts l fr tt (k + 1) := by
  subst hy
  unfold wts
  have e : (l.drop k).map (fun x => sw1 x fr tt) = sw1 l[k] fr tt :: (l.drop (k + 1)).map (fun x => sw1 x fr tt) := by rw [List.drop_eq_getElem_cons h]; rfl
  rw [List.set_append_right _ _ (by simp; omega), e, show k - (List.map (swQ fr tt) (List.take k l)).length = 0 by simp; omega, List.set_cons_zero, take_snoc h, List.map_append, List.append_assoc]; rfl
theorem wts_same (l : List ByteArray) (fr tt : ByteArray) {k : Nat} (h : k < l.length) (hy : sw1 l[k] fr tt = swQ fr tt l[k]) : wts l fr tt k = wts l fr tt (k + 1) := by
  unfold wts
  rw [take_snoc h, List.map_append, List.drop_eq_getElem_cons h, List.map_cons, hy]
  simp
theorem listB_len (n : Nat) : ∀ {l : List ByteArray}, (∀ x ∈ l, x.size ≤ n) → (listB l).length ≤ (n + 1) * l.length
  | [], _ => Nat.zero_le _
  | [x], h => by
    show x.data.toList.length ≤ _
    rw [dl]; have := h x (by simp); simp; omega
  | x :: y :: l, h => by
    have ih := listB_len n (l := y :: l) (fun z hz => h z (List.mem_cons_of_mem _ hz))
    have h1 := h x (by simp)
    show (x.data.toList ++ 32 :: listB (y :: l)).length ≤ _
    rw [List.length_append, List.length_cons, dl, List.length_cons (a := x), Nat.mul_succ]; omega
theorem sw1_size (x fr tt : ByteArray) : (sw1 x fr tt).size ≤ x.size + tt.size := by
  cases h : Lib.hasSuffix x.data.toList fr.data.toList with
  | true => rw [sw1_yes h, ByteArray.size_append, (ext_dt (t := x) (a := 0) (b := x.size - fr.size) (by omega) (by omega)).2]; omega
  | false => rw [sw1_no h]; omega
theorem sides {fr tt : ByteArray} (h1 : fr.size ≤ 100) (h2 : tt.size ≤ 100) (h3 : Gd fr) (h4 : Gd tt) : fr.data.toList.length ≤ 100 ∧ tt.data.toList.length ≤ 100 ∧ (∀ c ∈ fr.data.toList ++ 61 :: tt.data.toList, c ≠ 36 ∧ c ≠ 40 ∧ c ≠ 41) ∧ (61 : UInt8) ∉ fr.data.toList := by
  refine ⟨by rw [dl]; exact h1, by rw [dl]; exact h2, fun c hc => ?_, h3.no (by decide)⟩
  rcases List.mem_append.1 hc with h | h
  · exact ⟨isL_ne (h3.2.2 c h) _ (by decide), isL_ne (h3.2.2 c h) _ (by decide), isL_ne (h3.2.2 c h) _ (by decide)⟩
  rcases List.mem_cons.1 h with rfl | h
  · decide
  · exact ⟨isL_ne (h4.2.2 c h) _ (by decide), isL_ne (h4.2.2 c h) _ (by decide), isL_ne (h4.2.2 c h) _ (by decide)⟩
theorem sides_pct {A B fr tt : ByteArray} (hA : A.data.toList = 37 :: fr.data.toList) (hB : B.data.toList = 37 :: tt.data.toList) (h1 : fr.size ≤ 90) (h2 : tt.size ≤ 90) (h3 : Gd fr) (h4 : Gd tt) : A.data.toList.length ≤ 100 ∧ B.data.toList.length ≤ 100 ∧ (∀ c ∈ A.data.toList ++ 61 :: B.data.toList, c ≠ 36 ∧ c ≠ 40 ∧ c ≠ 41) ∧ (61 : UInt8) ∉ A.data.toList := by
  obtain ⟨g1, g2, g3, g4⟩ := sides (fr := fr) (tt := tt) (by omega) (by omega) h3 h4
  rw [hA, hB]
  refine ⟨by rw [List.length_cons, dl]; omega, by rw [List.length_cons, dl]; omega, fun c hc => ?_, fun hm => ?_⟩
  · rcases List.mem_cons.1 hc with rfl | hc
    · decide
    rcases List.mem_append.1 hc with h | h
    · exact g3 c (List.mem_append_left _ h)
    rcases List.mem_cons.1 h with rfl | h
    · decide
    rcases List.mem_cons.1 h with rfl | h
    · decide
    exact g3 c (List.mem_append_right _ (List.mem_cons_of_mem _ h))
  · rcases List.mem_cons.1 hm with e | hm
    · exact absurd e (by decide)
    · exact g4 hm
theorem isL_true {c : UInt8} (h1 : 97 ≤ c.toNat) (h2 : c.toNat ≤ 122) : isL c = true := by unfold isL; simp [h1, h2]
set_option maxRecDepth 100000 in
set_option maxHeartbeats 16000000 in
theorem swaps_walk (v0 : Value) (l : List ByteArray) (fr tt : ByteArray) (pc : Bool) (W : World) (hT : Txt W v0 l) (hl : l.length ≤ maxLen) (hx : ∀ x ∈ l, x.size ≤ maxLen) (hf : fr.size ≤ maxLen) (ht : tt.size ≤ maxLen) (hmm : ∃ m, W.cell? ⟨0, 0, none⟩ = some (.int .i64 m)) :
    Calls Tryd.prog 7 #[v0, .string fr, .string tt, .bool pc] W fun e w' => e = .returned (.bool true) ∧ Below W.heap.size W w' := by
  have hl2 : l.length ≤ 9223372036854775807 := by unfold maxLen at hl; omega
  have hf2 : fr.size ≤ 9223372036854775807 := by unfold maxLen at hf; omega
  have ht2 : tt.size ≤ 9223372036854775807 := by unfold maxLen at ht; omega
  have HA := Lib.hid (alive_any W hmm)
  have HMM := Lib.hid (fun w' hb => max_keep (w' := w') hmm hb)
  have HT := Lib.hid hT
  have HXM := Lib.hid hx
  obtain ⟨a0, c0, hv0, _⟩ := hT.form
  subst hv0
  clear hmm hT hl hf ht hx
  by_cases h1 : 20 < l.length
  · have dh1 : decide ((20 : Int) < (l.length : Int)) = true := decide_eq_true (by omega)
    go_enter Tryd.func7, Tryd.ntmps7
    go_wp2_with (go_at_call 11; refine HA.out.mono ?_; rintro e w5 ⟨rfl, h5⟩; have HB := Lib.hid h5; clear h5; simp only [])
    go_ret
    exact ⟨rfl, HB.out⟩
  have d1 : decide ((20 : Int) < (l.length : Int)) = false := decide_eq_false (by omega)
  by_cases h2 : 20 < fr.size
  · have dh2 : decide ((20 : Int) < (fr.size : Int)) = true := decide_eq_true (by omega)
    go_enter Tryd.func7, Tryd.ntmps7
    go_wp2_with (go_at_call 11; refine HA.out.mono ?_; rintro e w5 ⟨rfl, h5⟩; have HB := Lib.hid h5; clear h5; simp only [])
    go_ret
    exact ⟨rfl, HB.out⟩
  have d2 : decide ((20 : Int) < (fr.size : Int)) = false := decide_eq_false (by omega)
  by_cases h3 : 20 < tt.size
  · have dh3 : decide ((20 : Int) < (tt.size : Int)) = true := decide_eq_true (by omega)
    go_enter Tryd.func7, Tryd.ntmps7
    go_wp2_with (go_at_call 11; refine HA.out.mono ?_; rintro e w5 ⟨rfl, h5⟩; have HB := Lib.hid h5; clear h5; simp only [])
    go_ret
    exact ⟨rfl, HB.out⟩
  have d3 : decide ((20 : Int) < (tt.size : Int)) = false := decide_eq_false (by omega)
  by_cases h4 : fr.data.toList = []
  · have dh4 : fr.toList.isEmpty = true := isE_of h4
    go_enter Tryd.func7, Tryd.ntmps7
    go_wp2_with (go_at_call 11; refine HA.out.mono ?_; rintro e w5 ⟨rfl, h5⟩; have HB := Lib.hid h5; clear h5; simp only [])
    go_ret
    exact ⟨rfl, HB.out⟩
  have d4 : fr.toList.isEmpty = false := isE_ne h4
  by_cases h5 : tt.data.toList = []
  · have dh5 : tt.toList.isEmpty = true := isE_of h5
    go_enter Tryd.func7, Tryd.ntmps7
    go_wp2_with (go_at_call 11; refine HA.out.mono ?_; rintro e w5 ⟨rfl, h5⟩; have HB := Lib.hid h5; clear h5; simp only [])
    go_ret
    exact ⟨rfl, HB.out⟩
  have d5 : tt.toList.isEmpty = false := isE_ne h5
  have hl20 : l.length ≤ 20 := by omega
  have hf20 : fr.size ≤ 20 := by omega
  have ht20 : tt.size ≤ 20 := by omega
  have HAPP := Lib.hid (fun w6 (hb : Below W.heap.size W w6) => app_nil (HT.out.below hb) (by omega))
  clear h1 h2 h3 h4 h5
  go_enter Tryd.func7, Tryd.ntmps7
  go_wp2_with (first
    | (go_at_call 11; refine HA.out.mono ?_; rintro e w5 ⟨rfl, h5⟩; have HB := Lib.hid h5; clear h5
       obtain ⟨v6, w6, r6, h6⟩ := HAPP.out w5 HB.out
       obtain ⟨v7, w7, r7, h7⟩ := app_two h6 (by omega) fr tt
       obtain ⟨a6, c6, hv6⟩ := h6.form
       subst hv6
       obtain ⟨a7, c7, hv7, hcl⟩ := h7.txt.form
       subst hv7
       have H7 := Lib.hid h7.old
       have HCL := Lib.hid hcl
       clear h6 h7 hcl
       simp only [List.length_append, List.length_cons, List.length_nil] at r7
       simp only [])
    | (at_builtin; refine wpList_run_append _ rfl _ _ 38 38 rfl _ _ rfl rfl r6 ?_)
    | (at_builtin; refine wpList_run_append _ rfl _ _ 38 38 rfl _ _ rfl rfl r7 ?_))
  have hZl : (l ++ [fr, tt]).length = l.length + 2 := by simp
  obtain ⟨Z, hZ⟩ : ∃ Z, l ++ [fr, tt] = Z := ⟨_, rfl⟩
  rw [hZ] at HCL hZl
  have HZ := Lib.hid hZ
  clear hZ
  go_loopw [11] (fun i wx => ∃ (k : Nat), i = .int .i64 (k : Int) ∧ k ≤ Z.length ∧ wx = w7 ∧ Hid (∀ x ∈ Z.take k, Gd x)) (fun i _ => Z.length + 1 - (intOf i).toNat)
  case atStart => exact ⟨0, rfl, Nat.zero_le _, rfl, by intro x hx; cases hx⟩
  case round =>
    obtain ⟨k, rfl, hk, rfl, HG⟩ := hrel
    by_cases hlt : k < Z.length
    case pos =>
      have hld : decide ((k : Int) < (l.length : Int) + 2) = true := decide_eq_true (by omega)
      have b2 : IntKind.i64.wrap ((k : Int) + 1) = (k : Int) + 1 := IntWalk.i64_in _ (by omega)
      have hki : (k : Int) < (l.length : Int) + 2 := by omega
      have hk0 : (0 : Int) ≤ (k : Int) := by omega
      obtain ⟨g, off, rfl, hg, hcell⟩ := HCL.out k hlt
      have HN := Lib.hid (take_snoc hlt)
      obtain ⟨X, hX⟩ : ∃ X, Z[k] = X := ⟨_, rfl⟩
      rw [hX] at hcell
      rw [hX] at HN
      have hB7 := Lib.hid (HB.out.trans (H7.out.mono HB.out.size))
      clear hX
      by_cases e1 : X.data.toList = []
      case pos =>
        have d6 : X.toList.isEmpty = true := isE_of e1
        go_wp2_with fail
        go_ret
        exact ⟨rfl, hB7.out⟩
      case neg =>
      have d6 : X.toList.isEmpty = false := isE_ne e1
      have hX0 : 0 < X.size := by rw [← dl]; exact List.length_pos_iff.2 e1
      by_cases e2 : 40 < X.size
      case pos =>
        have d7 : decide ((40 : Int) < (X.size : Int)) = true := decide_eq_true (by omega)
        go_wp2_with fail
        go_ret
        exact ⟨rfl, hB7.out⟩
      case neg =>
      have d7 : decide ((40 : Int) < (X.size : Int)) = false := decide_eq_false (by omega)
      have hX40 : X.size ≤ 40 := by omega
      clear e1 e2
      go_wp2_with fail
      go_loopw [12] (fun i wx => ∃ (m : Nat), i = .int .i64 (m : Int) ∧ m ≤ X.size ∧ wx = wr ∧ Hid (∀ c ∈ X.data.toList.take m, isL c = true)) (fun i _ => X.size + 1 - (intOf i).toNat)
      case atStart => exact ⟨0, rfl, Nat.zero_le _, rfl, by intro c hc; cases hc⟩
      case round =>
        obtain ⟨m, rfl, hm, rfl, HI⟩ := hrel
        by_cases hmt : m < X.size
        case pos =>
          have hmd : decide ((m : Int) < (X.size : Int)) = true := decide_eq_true (by omega)
          have hmI : (m : Int) < (X.size : Int) := by omega
          have hm0 : (0 : Int) ≤ (m : Int) := by omega
          have b3 : IntKind.i64.wrap ((m : Int) + 1) = (m : Int) + 1 := IntWalk.i64_in _ (by omega)
          have hat := Lib.data_getElem? X m hmt
          obtain ⟨c, hc⟩ : ∃ c, X[m]'hmt = c := ⟨_, rfl⟩
          rw [hc] at hat
          cases hic : isL c with
          | true =>
            have HI2 : Hid (∀ c ∈ X.data.toList.take (m + 1), isL c = true) := fun z hz => by
              rw [List.take_add_one, hat] at hz
              rcases List.mem_append.1 hz with hz | hz
              · exact HI.out z hz
              · simp at hz; rw [hz]; exact hic
            unfold isL at hic
            simp only [Bool.or_eq_true, Bool.and_eq_true, decide_eq_true_iff] at hic
            clear hat
            by_cases q1 : 97 ≤ c.toNat
            · have g1 : decide ((97 : Int) ≤ (c.toNat : Int)) = true := decide_eq_true (by omega)
              by_cases q2 : c.toNat ≤ 122
              · have g2 : decide ((c.toNat : Int) ≤ 122) = true := decide_eq_true (by omega)
                go_wp2_with fail
                go_roundw
                case measure => simp [intOf] <;> omega
                case rel => exact ⟨m + 1, rfl, hmt, trivial, HI2.out⟩
              · exfalso; omega
            · have g1 : decide ((97 : Int) ≤ (c.toNat : Int)) = false := decide_eq_false (by omega)
              have q3 : c.toNat = 46 := by omega
              have g3 : ((c.toNat : Int) == 46) = true := by rw [q3]; rfl
              go_wp2_with fail
              go_roundw
              case measure => simp [intOf] <;> omega
              case rel => exact ⟨m + 1, rfl, hmt, trivial, HI2.out⟩
          | false =>
            have q3 : c.toNat ≠ 46 := by
              intro e; unfold isL at hic; rw [e] at hic; simp at hic
            have q4 : ¬ (97 ≤ c.toNat ∧ c.toNat ≤ 122) := by
              rintro ⟨e1, e2⟩; unfold isL at hic; simp [e1, e2] at hic
            have g3 : ((c.toNat : Int) == 46) = false := beq_eq_false_iff_ne.2 (by omega)
            clear hat hic
            by_cases q1 : 97 ≤ c.toNat
            · have g1 : decide ((97 : Int) ≤ (c.toNat : Int)) = true := decide_eq_true (by omega)
              have g2 : decide ((c.toNat : Int) ≤ 122) = false := decide_eq_false (by omega)
              go_wp2_with fail
              go_ret
              exact ⟨rfl, hB7.out⟩
            · have g1 : decide ((97 : Int) ≤ (c.toNat : Int)) = false := decide_eq_false (by omega)
              go_wp2_with fail
              go_ret
              exact ⟨rfl, hB7.out⟩
        case neg =>
        have hmd : decide ((m : Int) < (X.size : Int)) = false := decide_eq_false (by omega)
        have hGX : Gd X := ⟨hX0, hX40, fun z hz => HI.out z (by rw [List.take_of_length_le (by rw [dl]; omega)]; exact hz)⟩
        have HG2 : Hid (∀ x ∈ Z.take (k + 1), Gd x) := fun x hx => by
          rw [HN.out] at hx
          rcases List.mem_append.1 hx with hx | hx
          · exact HG.out x hx
          · simp at hx; rw [hx]; exact hGX
        clear hGX
        go_wp2_with fail
        go_roundw
        case measure => simp [intOf] <;> omega
        case rel => exact ⟨k + 1, rfl, hlt, trivial, HG2.out⟩
    case neg =>
    have hld : decide ((k : Int) < (l.length : Int) + 2) = false := decide_eq_false (by omega)
    have hGZ : ∀ x ∈ Z, Gd x := fun x hx => HG.out x (by rw [List.take_of_length_le (by omega)]; exact hx)
    have hGl : ∀ x ∈ l, Gd x := fun x hx => hGZ x (by rw [← HZ.out]; exact List.mem_append_left _ hx)
    have hGf : Gd fr := hGZ fr (by rw [← HZ.out]; simp)
    have hGt : Gd tt := hGZ tt (by rw [← HZ.out]; simp)
    have hB7 := Lib.hid (HB.out.trans (H7.out.mono HB.out.size))
    have HGL := Lib.hid hGl
    have HGF := Lib.hid hGf
    have HGT := Lib.hid hGt
    have HSW := Lib.hid (RefSwap_any _ l fr tt wr (by omega) (fun x hx => by have := (hGl x hx).2.1; omega) (by omega) (HT.out.below hB7.out))
    clear hGZ hGl hGf hGt
    cases pc with
    | false =>
      go_wp2_with (go_at_call 19; refine HSW.out.mono ?_)
      rintro e w8 ⟨v8, rfl, hW8⟩
      obtain ⟨a8, c8, rfl⟩ := hW8.form
      rw [List.length_map] at hW8
      have HW8 := Lib.hid hW8
      have hB8 := Lib.hid (hB7.out.trans (hW8.old.mono hB7.out.size))
      clear hW8
      simp only [List.length_map]
      have HWM := HW8
      have hB9 := hB8
      have hfs : ∀ y ∈ l, (sw1 y fr tt).size ≤ 100 := fun y hy => by have := sw1_size y fr tt; have := (HGL.out y hy).2.1; omega
      have HSF : Hid (∀ V : Bs, V = 32 :: (listB l ++ [32]) → swapF V fr.data.toList tt.data.toList = listB (l.map fun x => sw1 x fr tt)) := fun V hV => swapF_list HGL.out (by omega) hV (fun x hx => one_dot (HGF.out.no (by decide))) hfs
      have HSA : Hid (fr.data.toList.length ≤ 100 ∧ tt.data.toList.length ≤ 100 ∧ (∀ c ∈ fr.data.toList ++ 61 :: tt.data.toList, c ≠ 36 ∧ c ≠ 40 ∧ c ≠ 41) ∧ (61 : UInt8) ∉ fr.data.toList) := sides (by omega) (by omega) HGF.out HGT.out
      obtain ⟨M, hM⟩ : ∃ M, (l.map fun x => sw1 x fr tt) = M := ⟨_, rfl⟩
      rw [hM] at HWM
      rw [hM] at HSF
      have hMl : M.length = l.length := by rw [← hM]; simp
      have hMs : ∀ x ∈ M, x.size ≤ 100 := fun x hx => by
        rw [← hM] at hx
        obtain ⟨y, hy, rfl⟩ := List.mem_map.1 hx
        exact hfs y hy
      have HMS := Lib.hid hMs
      have hTl := HT.out.below hB9.out
      have HLS := Lib.hid (List_any _ l _ (by omega) (fun x hx => by have := (HGL.out x hx).2.1; omega) hTl)
      obtain ⟨T1, hT1⟩ : ∃ T1 : ByteArray, (⟨#[36, 40, 120, 58]⟩ : ByteArray) ++ fr ++ (⟨#[61]⟩ : ByteArray) ++ tt ++ (⟨#[41]⟩ : ByteArray) = T1 := ⟨_, rfl⟩
      have hd1 : T1.data.toList = 36 :: (40 :: ((120 :: 58 :: ((fr).data.toList ++ 61 :: (tt).data.toList)) ++ [41])) := by rw [← hT1]; simp
      have HD1 := Lib.hid hd1
      clear hd1 hMs hTl hM
      have hz1 : ¬ (9223372036854775807 < 4 + fr.size) := by omega
      have hz2 : ¬ (9223372036854775807 < 4 + fr.size + 1) := by omega
      have hz3 : ¬ (9223372036854775807 < 4 + fr.size + 1 + tt.size) := by omega
      have hz4 : ¬ (9223372036854775807 < 4 + fr.size + 1 + tt.size + 1) := by omega
      go_wp2_with (go_at_call 20; refine HLS.out.mono ?_)
      rintro e w10 ⟨t0, rfl, ht0, h10⟩
      obtain rfl := h10.symm
      have hl0 : t0.size ≤ 41 * l.length := by rw [← dl, ht0]; exact listB_len 40 (fun x hx => (HGL.out x hx).2.1)
      have hz7 : ¬ (9223372036854775807 < 1 + t0.size) := by omega
      have hz8 : ¬ (9223372036854775807 < 1 + t0.size + 1) := by omega
      obtain ⟨V, hV⟩ : ∃ V : ByteArray, (⟨#[32]⟩ : ByteArray) ++ t0 ++ (⟨#[32]⟩ : ByteArray) = V := ⟨_, rfl⟩
      have hVd : V.data.toList = 32 :: (listB l ++ [32]) := by rw [← hV, ← ht0]; simp
      have hVs : V.size ≤ 1000 := by rw [← hV, ByteArray.size_append, ByteArray.size_append]; show 1 + t0.size + 1 ≤ 1000; omega
      have hsw : swapF V.data.toList (fr).data.toList (tt).data.toList = listB M := HSF.out _ hVd
      have hsl : (listB M).length ≤ 101 * M.length := listB_len 100 HMS.out
      have h36V : (36 : UInt8) ∉ V.data.toList := by
        rw [hVd]
        intro hm
        rcases List.mem_cons.1 hm with e | hm
        · exact absurd e (by decide)
        rcases List.mem_append.1 hm with hm | hm
        · exact listB_no (by decide) (by decide) HGL.out hm
        · simp at hm
      obtain ⟨c9, hc9⟩ := swap_val (V := V.data.toList) (a := (fr).data.toList) (b := (tt).data.toList) (by rw [dl]; omega) h36V HSA.out.1 HSA.out.2.1 HSA.out.2.2.1 HSA.out.2.2.2 (by rw [hsw]; omega)
      rw [hsw] at hc9
      have hbl : Below w8.heap.size w8 (w8.alloc (.cells #[.string ⟨#[120]⟩, .string V] 36)) := (Below.refl _ _).alloc (Nat.le_refl _) _
      have hpv := PV.one w8 (⟨#[120]⟩, V) (by show V.size ≤ _; omega)
      obtain ⟨wa, hwa⟩ : ∃ wa, w8.alloc (.cells #[.string ⟨#[120]⟩, .string V] 36) = wa := ⟨_, rfl⟩
      rw [show w8.alloc (.cells #[.string ((⟨#[120]⟩ : ByteArray), V).1, .string ((⟨#[120]⟩ : ByteArray), V).2] 36) = wa from hwa] at hpv
      rw [hwa] at hbl
      have HBA := Lib.hid (hB9.out.trans (hbl.mono hB9.out.size))
      have HWA := Lib.hid (HWM.out.below hbl)
      have hx := Expand_any (.slice (some ⟨w8.heap.size, 0, none⟩) 1 1) (.slice none 0 0) [(⟨#[120]⟩, V)] [] (by simp) wa T1 hpv (PV.nil _ _) (HMM.out _ HBA.out)
      rw [HD1.out] at hx
      rw [show expandF (bsl [((⟨#[120]⟩ : ByteArray), V)]) (bsl []) 40 [] (36 :: (40 :: ((120 :: 58 :: ((fr).data.toList ++ 61 :: (tt).data.toList)) ++ [41]))) 0 = _ from hc9] at hx
      have HX := Lib.hid hx
      have HN := Lib.hid (fun z w => num_any z w)
      clear hx hpv hbl hc9 hsw h36V hVd ht0
      go_wp2_with (go_at_call 15; refine HX.out.mono ?_)
      rintro e w11 ⟨t, rfl, ht, hB11⟩
      have HT11 := Lib.hid ht
      have HB11 := Lib.hid (HBA.out.trans (hB11.mono HBA.out.size))
      have hWM := (HWA.out.below hB11).txt
      have HLM := Lib.hid (List_any _ M w11 (by omega) (fun x hx => by have := HMS.out x hx; omega) hWM)
      clear ht hB11 hWM
      dsimp only
      go_wp2_with (first
        | (go_at_call 16; refine (HN.out _ _).mono ?_; rintro e w12 ⟨rfl, h12⟩; obtain rfl := h12.symm; simp only [])
        | (go_at_call 20; refine HLM.out.mono ?_; rintro e w13 ⟨t13, rfl, ht13, h13⟩; obtain rfl := h13.symm; obtain rfl : t13 = t := ba_ext (ht13.trans HT11.out.symm); clear ht13; simp only []))
      go_ret
      exact ⟨rfl, HB11.out⟩
    | true =>
      go_wp2_with (go_at_call 19; refine HSW.out.mono ?_)
      rintro e w8 ⟨v8, rfl, hW8⟩
      obtain ⟨a8, c8, rfl⟩ := hW8.form
      rw [List.length_map] at hW8
      have HW8 := Lib.hid hW8
      have hB8 := Lib.hid (hB7.out.trans (hW8.old.mono hB7.out.size))
      clear hW8
      simp only [List.length_map]
      obtain ⟨wq, hwq⟩ : ∃ wq, wr = wq := ⟨_, rfl⟩
      rw [hwq] at HW8 hB7
      clear hwq
      obtain ⟨A, hA⟩ : ∃ A : ByteArray, (⟨#[37]⟩ : ByteArray) ++ fr = A := ⟨_, rfl⟩
      obtain ⟨B, hB⟩ : ∃ B : ByteArray, (⟨#[37]⟩ : ByteArray) ++ tt = B := ⟨_, rfl⟩
      have hAd : A.data.toList = 37 :: fr.data.toList := by rw [← hA]; simp
      have hBd : B.data.toList = 37 :: tt.data.toList := by rw [← hB]; simp
      have hAs : A.size = fr.size + 1 := by rw [← dl, hAd, List.length_cons, dl]
      have hBs : B.size = tt.size + 1 := by rw [← dl, hBd, List.length_cons, dl]
      have HAD := Lib.hid hAd
      have HBD := Lib.hid hBd
      clear hAd hBd
      have hzp1 : ¬ (9223372036854775807 < 1 + fr.size) := by omega
      have hzp2 : ¬ (9223372036854775807 < 1 + tt.size) := by omega
      go_wp2_with fail
      go_loopw [17] (fun i wx => ∃ (k : Nat), i = .int .i64 (k : Int) ∧ k ≤ l.length ∧ Hid (Wn wq wx (.slice a8 l.length c8) (wts l fr tt k))) (fun i _ => l.length + 1 - (intOf i).toNat)
      case atStart => exact ⟨0, rfl, Nat.zero_le _, by rw [Hid, show wts l fr tt 0 = l.map (fun x => sw1 x fr tt) by simp [wts]]; exact HW8.out⟩
      case round =>
        obtain ⟨k, rfl, hk, HK⟩ := hrel
        have hBx := Lib.hid (hB7.out.trans (HK.out.old.mono hB7.out.size))
        by_cases hlt2 : k < l.length
        case pos =>
          have hld2 : decide ((k : Int) < (l.length : Int)) = true := decide_eq_true (by omega)
          have b4 : IntKind.i64.wrap ((k : Int) + 1) = (k : Int) + 1 := IntWalk.i64_in _ (by omega)
          have hkI : (k : Int) < (l.length : Int) := by omega
          have hk0 : (0 : Int) ≤ (k : Int) := by omega
          obtain ⟨a1, c1, e1, hc1⟩ := (HT.out.below hBx.out).form
          injection e1 with e1 _ e3
          subst e1
          subst e3
          obtain ⟨g, off, rfl, hg, hcell⟩ := hc1 k hlt2
          obtain ⟨g8, cap8, e8, _, _⟩ := HK.out.own.form (by rw [wts_len]; omega)
          injection e8 with e8 _ e9
          subst e8
          subst e9
          have hown := HK.out.own
          rw [wts_len] at hown
          have hcell2 := hown.cellAt k (by omega)
          have hfz := hown.frozenAt k
          rw [List.getElem?_map, List.getElem?_eq_getElem (by rw [wts_len]; exact hlt2), Option.map_some] at hcell2
          clear hown
          obtain ⟨X, hX⟩ : ∃ X, l[k] = X := ⟨_, rfl⟩
          rw [hX] at hcell
          by_cases e : X = fr
          · have g1 := str_yes e
            have HN2 : Hid (Wn wq (wr.setCell ⟨g8, k, none⟩ (.string X)) (.slice (some ⟨g8, 0, none⟩) l.length c8) (wts l fr tt (k + 1))) := by
              have h9 := HK.out.store (wts_len l fr tt k).symm k X
              rw [wts_next l fr tt hlt2 X (by rw [hX]; unfold swQ; rw [if_pos e])] at h9
              exact h9
            clear hX e
            go_wp2_with fail
            go_roundw
            case measure => simp [intOf] <;> omega
            case rel => exact ⟨k + 1, rfl, hlt2, HN2.out⟩
          · have g1 := str_no e
            have HN2 : Hid (Wn wq wr (.slice (some ⟨g8, 0, none⟩) l.length c8) (wts l fr tt (k + 1))) := by
              have h9 := HK.out
              rw [wts_same l fr tt hlt2 (by rw [hX]; unfold swQ; rw [if_neg e])] at h9
              exact h9
            clear hX e
            go_wp2_with fail
            go_roundw
            case measure => simp [intOf] <;> omega
            case rel => exact ⟨k + 1, rfl, hlt2, HN2.out⟩
        case neg =>
        obtain rfl : k = l.length := by omega
        have hld2 : decide ((l.length : Int) < (l.length : Int)) = false := decide_eq_false (by omega)
        have HWM := HK
        rw [show wts l fr tt l.length = l.map (swQ fr tt) by simp [wts]] at HWM
        have hB9 := hBx
        have hfs : ∀ y ∈ l, (swQ fr tt y).size ≤ 100 := fun y hy => by
          have h8 := sw1_size y fr tt
          have := (HGL.out y hy).2.1
          unfold swQ; split <;> omega
        have HSF : Hid (∀ V : Bs, V = 32 :: (listB l ++ [32]) → swapF V A.data.toList B.data.toList = listB (l.map (swQ fr tt))) := fun V hV => by
          rw [HAD.out, HBD.out]
          exact swapF_list HGL.out (by omega) hV (fun x hx => one_pct (HGL.out x hx).1 (HGF.out.no (by decide))) hfs
        have HSA := Lib.hid (sides_pct HAD.out HBD.out (by omega) (by omega) HGF.out HGT.out)
        obtain ⟨M, hM⟩ : ∃ M, (l.map (swQ fr tt)) = M := ⟨_, rfl⟩
        rw [hM] at HWM
        rw [hM] at HSF
        have hMl : M.length = l.length := by rw [← hM]; simp
        have hMs : ∀ x ∈ M, x.size ≤ 100 := fun x hx => by
          rw [← hM] at hx
          obtain ⟨y, hy, rfl⟩ := List.mem_map.1 hx
          exact hfs y hy
        have HMS := Lib.hid hMs
        have hTl := HT.out.below hB9.out
        have HLS := Lib.hid (List_any _ l _ (by omega) (fun x hx => by have := (HGL.out x hx).2.1; omega) hTl)
        obtain ⟨T1, hT1⟩ : ∃ T1 : ByteArray, (⟨#[36, 40, 120, 58]⟩ : ByteArray) ++ A ++ (⟨#[61]⟩ : ByteArray) ++ B ++ (⟨#[41]⟩ : ByteArray) = T1 := ⟨_, rfl⟩
        have hd1 : T1.data.toList = 36 :: (40 :: ((120 :: 58 :: ((A).data.toList ++ 61 :: (B).data.toList)) ++ [41])) := by rw [← hT1]; simp
        have HD1 := Lib.hid hd1
        clear hd1 hMs hTl hM
        have hz1 : ¬ (9223372036854775807 < 4 + A.size) := by omega
        have hz2 : ¬ (9223372036854775807 < 4 + A.size + 1) := by omega
        have hz3 : ¬ (9223372036854775807 < 4 + A.size + 1 + B.size) := by omega
        have hz4 : ¬ (9223372036854775807 < 4 + A.size + 1 + B.size + 1) := by omega
        go_wp2_with (go_at_call 20; refine HLS.out.mono ?_)
        rintro e w10 ⟨t0, rfl, ht0, h10⟩
        obtain rfl := h10.symm
        have hl0 : t0.size ≤ 41 * l.length := by rw [← dl, ht0]; exact listB_len 40 (fun x hx => (HGL.out x hx).2.1)
        have hz7 : ¬ (9223372036854775807 < 1 + t0.size) := by omega
        have hz8 : ¬ (9223372036854775807 < 1 + t0.size + 1) := by omega
        obtain ⟨V, hV⟩ : ∃ V : ByteArray, (⟨#[32]⟩ : ByteArray) ++ t0 ++ (⟨#[32]⟩ : ByteArray) = V := ⟨_, rfl⟩
        have hVd : V.data.toList = 32 :: (listB l ++ [32]) := by rw [← hV, ← ht0]; simp
        have hVs : V.size ≤ 1000 := by rw [← hV, ByteArray.size_append, ByteArray.size_append]; show 1 + t0.size + 1 ≤ 1000; omega
        have hsw : swapF V.data.toList (A).data.toList (B).data.toList = listB M := HSF.out _ hVd
        have hsl : (listB M).length ≤ 101 * M.length := listB_len 100 HMS.out
        have h36V : (36 : UInt8) ∉ V.data.toList := by
          rw [hVd]
          intro hm
          rcases List.mem_cons.1 hm with e | hm
          · exact absurd e (by decide)
          rcases List.mem_append.1 hm with hm | hm
          · exact listB_no (by decide) (by decide) HGL.out hm
          · simp at hm
        obtain ⟨c9, hc9⟩ := swap_val (V := V.data.toList) (a := (A).data.toList) (b := (B).data.toList) (by rw [dl]; omega) h36V HSA.out.1 HSA.out.2.1 HSA.out.2.2.1 HSA.out.2.2.2 (by rw [hsw]; omega)
        rw [hsw] at hc9
        have hbl : Below wr.heap.size wr (wr.alloc (.cells #[.string ⟨#[120]⟩, .string V] 36)) := (Below.refl _ _).alloc (Nat.le_refl _) _
        have hpv := PV.one wr (⟨#[120]⟩, V) (by show V.size ≤ _; omega)
        obtain ⟨wa, hwa⟩ : ∃ wa, wr.alloc (.cells #[.string ⟨#[120]⟩, .string V] 36) = wa := ⟨_, rfl⟩
        rw [show wr.alloc (.cells #[.string ((⟨#[120]⟩ : ByteArray), V).1, .string ((⟨#[120]⟩ : ByteArray), V).2] 36) = wa from hwa] at hpv
        rw [hwa] at hbl
        have HBA := Lib.hid (hB9.out.trans (hbl.mono hB9.out.size))
        have HWA := Lib.hid (HWM.out.below hbl)
        have hx := Expand_any (.slice (some ⟨wr.heap.size, 0, none⟩) 1 1) (.slice none 0 0) [(⟨#[120]⟩, V)] [] (by simp) wa T1 hpv (PV.nil _ _) (HMM.out _ HBA.out)
        rw [HD1.out] at hx
        rw [show expandF (bsl [((⟨#[120]⟩ : ByteArray), V)]) (bsl []) 40 [] (36 :: (40 :: ((120 :: 58 :: ((A).data.toList ++ 61 :: (B).data.toList)) ++ [41]))) 0 = _ from hc9] at hx
        have HX := Lib.hid hx
        have HN := Lib.hid (fun z w => num_any z w)
        clear hx hpv hbl hc9 hsw h36V hVd ht0
        go_wp2_with (go_at_call 15; refine HX.out.mono ?_)
        rintro e w11 ⟨t, rfl, ht, hB11⟩
        have HT11 := Lib.hid ht
        have HB11 := Lib.hid (HBA.out.trans (hB11.mono HBA.out.size))
        have hWM := (HWA.out.below hB11).txt
        have HLM := Lib.hid (List_any _ M w11 (by omega) (fun x hx => by have := HMS.out x hx; omega) hWM)
        clear ht hB11 hWM
        dsimp only
        go_wp2_with (first
          | (go_at_call 16; refine (HN.out _ _).mono ?_; rintro e w12 ⟨rfl, h12⟩; obtain rfl := h12.symm; simp only [])
          | (go_at_call 20; refine HLM.out.mono ?_; rintro e w13 ⟨t13, rfl, ht13, h13⟩; obtain rfl := h13.symm; obtain rfl : t13 = t := ba_ext (ht13.trans HT11.out.symm); clear ht13; simp only []))
        go_ret
        exact ⟨rfl, HB11.out⟩
end Go.Proofs.YthbemfpoanmjcaaDoor
