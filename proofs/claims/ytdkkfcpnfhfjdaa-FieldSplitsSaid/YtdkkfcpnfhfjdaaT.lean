import Derived.Test.YtdkkfcpnfhfjdaaS
namespace Go.Proofs.Ytdkkfcpnfhfjdaa
open Go.RowKit
set_option linter.unusedVariables false

theorem blank_any (c : UInt8) (w : World) : Calls Try.prog 18 #[.int .u8 c.toNat] w fun e w' => e = .returned (.bool (isBl c)) ∧ w' = w := by
  cases hib : isBl c with
  | true =>
    rcases of_blank hib with h | h | h
    · have h1 : ((c.toNat : Int) == 32) = true := by rw [h]; rfl
      clear h hib
      go_enter Try.func18, Try.ntmps18
      go_wp2_with fail
      go_ret
      exact ⟨rfl, rfl⟩
    · have h1 : ((c.toNat : Int) == 32) = false := by rw [h]; rfl
      have h2 : ((c.toNat : Int) == 9) = true := by rw [h]; rfl
      clear h hib
      go_enter Try.func18, Try.ntmps18
      go_wp2_with fail
      go_ret
      exact ⟨rfl, rfl⟩
    · have h1 : ((c.toNat : Int) == 32) = false := by rw [h]; rfl
      have h2 : ((c.toNat : Int) == 9) = false := by rw [h]; rfl
      have h3 : ((c.toNat : Int) == 10) = true := by rw [h]; rfl
      clear h hib
      go_enter Try.func18, Try.ntmps18
      go_wp2_with fail
      go_ret
      exact ⟨rfl, rfl⟩
  | false =>
    obtain ⟨h1, h2, h3⟩ := blank_of hib
    clear hib
    go_enter Try.func18, Try.ntmps18
    go_wp2_with fail
    go_ret
    exact ⟨rfl, rfl⟩
theorem At.form {w0 w : World} {fsv fv : Value} {st : List (List P2) × List P2} {n : Nat} (h : At w0 w fsv fv st n) : (∃ s c, fv = .slice s st.2.length c) ∧ (∃ s m c, fsv = .slice s m c) ∧ st.2.length ≤ n := by
  obtain ⟨vals, FS, F, h1, h2, h3, h4, _⟩ := h.ex
  obtain ⟨s, c, e⟩ := h1.f.form
  obtain ⟨s2, c2, e2⟩ : ∃ s c, fsv = .slice s FS.length c := by
    rcases h1.fs.own.2 with ⟨h5, h6⟩ | ⟨b, cap, cur, h5, _⟩
    · exact ⟨none, 0, by rw [h6]; exact h5⟩
    · exact ⟨_, cap, h5⟩
  subst h2
  refine ⟨⟨s, c, by rw [e]; simp [p2s]⟩, ⟨s2, _, c2, e2⟩, ?_⟩
  simpa [p2s] using h4
theorem At.part {w0 w : World} {fsv fv : Value} {st : List (List P2) × List P2} {n : Nat} (h : At w0 w fsv fv st n) (hn : n ≤ 90000) (p : Pt) (hp : p.ok) :
    ∃ v' w', (Builtin.append_ #[22, 22] 22 #[fv, .slice (some ⟨w.heap.size, 0, none⟩) 1 1]).run Try.prog (w.alloc (.cells p.cs.toArray 31)) = .ok v' w' ∧ At w0 w' fsv v' (st.1, st.2 ++ [p.p2]) (n + 1) := by
  obtain ⟨vals, FS, F, hst, hpp, hFS, hFl, hFA⟩ := h.ex
  have hw0 : Below w.heap.size w (w.alloc (.cells p.cs.toArray 31)) := (Below.refl _ _).alloc (Nat.le_refl _) _
  obtain ⟨v', w', r1, r2, r3, r4⟩ := append_part (w.alloc (.cells p.cs.toArray 31)) w0.heap.size fv F (by omega) (hst.f.below hw0) (by have := hw0.size; have := hst.old.size; omega) w.heap.size 1 p hp (lit_new w p) 22
  refine ⟨v', w', r1, vals, FS, _, (hst.below hw0).grow r2 (Only.of_grown (S := fun i => fv.ownBlock = some i) r3 (fun k hk => hk)) ?_, ?_, by omega, ?_, fun f hf => by have := hFA f hf; omega⟩
  · rcases r4 with e | e
    · exact .inl e
    · exact .inr fun j hj => by rw [e] at hj; cases hj; exact Nat.le_refl _
  · rw [← hpp]; unfold p2s; rw [List.map_append]; rfl
  · rw [List.length_append, List.length_singleton]; omega
theorem At.push {w0 w : World} {fsv fv : Value} {st : List (List P2) × List P2} {n : Nat} (h : At w0 w fsv fv st n) (hn : n ≤ 90000) (h0 : st.2 ≠ []) :
    ∃ v' w', (Builtin.append_ #[26, 26] 26 #[fsv, .slice (some ⟨w.heap.size, 0, none⟩) 1 1]).run Try.prog (w.alloc (.cells #[fv] 22)) = .ok v' w' ∧ At w0 w' v' (.slice none 0 0) (shut st.1 st.2, []) (n + 1) := by
  obtain ⟨vals, FS, F, hst, hpp, hFS, hFl, hFA⟩ := h.ex
  obtain ⟨v8, w8, hrun, hst8⟩ := hst.push (by omega) 26
  refine ⟨v8, w8, hrun, _, _, [], hst8, ?_, ?_, by simp, fun f hf => ?_⟩
  · subst hpp
    have hF : F ≠ [] := fun e => h0 (by rw [e]; rfl)
    rw [shut_p3, if_neg hF]; rfl
  · rw [List.length_append, List.length_singleton]; omega
  · rcases List.mem_append.1 hf with hf | hf
    · have := hFA f hf; omega
    · rw [List.mem_singleton] at hf; subst hf; omega
theorem At.drop {w0 w : World} {fsv fv : Value} {fs : List (List P2)} {n : Nat} (h : At w0 w fsv fv (fs, []) n) : At w0 w fsv (.slice none 0 0) (fs, []) n := by
  obtain ⟨vals, FS, F, hst, hpp, hFS, hFl, hFA⟩ := h.ex
  refine ⟨vals, FS, [], ⟨hst.fs, Row.nil _ _, fun u _ k _ e => by simp [Value.ownBlock] at e, hst.old⟩, ?_, hFS, by simp, hFA⟩
  injection hpp with e1 e2
  rw [← e1]; rfl
/-- What the reference's inner loop has in hand. -/
def InL (w0 w : World) (fsv fv : Value) (t : ByteArray) (fr k : Nat) (goal : List (List P2) × List P2) (n : Nat) : Prop :=
  (k ≤ t.size ∧ fr ≤ k ∧ ∃ st, At w0 w fsv fv st n ∧ txB st.1 st.2 ((t.data.toList.take k).drop fr) (t.data.toList.drop k) = goal) ∨ (k = t.size + 1 ∧ At w0 w fsv fv goal n)
theorem ext_dt {t : ByteArray} {a b : Nat} (h : a ≤ b) (hb : b ≤ t.size) : (t.extract a b).data.toList = (t.data.toList.take b).drop a ∧ (t.extract a b).size = b - a := by
  refine ⟨?_, by simp; omega⟩
  simp [ByteArray.data_extract, List.drop_take]
theorem drop_one {t : ByteArray} {k : Nat} (h : k < t.size) : t.data.toList.drop k = (t[k]'h) :: t.data.toList.drop (k + 1) := by
  rw [List.drop_eq_getElem_cons (by rw [show t.data.toList.length = t.size from Array.length_toList]; exact h)]; rfl
theorem take_one {t : ByteArray} {k fr : Nat} (h : k < t.size) (hf : fr ≤ k) : (t.data.toList.take (k + 1)).drop fr = (t.data.toList.take k).drop fr ++ [t[k]'h] := by
  have hl : t.data.toList.length = t.size := Array.length_toList
  rw [List.take_add_one, List.getElem?_eq_getElem (by rw [hl]; exact h), List.drop_append_of_le_length (by rw [List.length_take, hl]; omega)]; rfl
set_option maxRecDepth 100000 in
set_option maxHeartbeats 8000000 in
theorem RefSplit_any (v : Value) (L : List Pt) (w : World) (hL : L.length ≤ 40) (hs : ∀ p ∈ L, p.t.size ≤ 300 ∧ -9223372036854775808 ≤ p.k ∧ p.k ≤ 9223372036854775807) (hS : Sl w v L) :
    Calls Try.prog 10 #[v] w (SplitR w (splitL (p2s L))) := by
  obtain ⟨a0, c0, hv, _⟩ := hS.form
  subst hv
  have HS := Lib.hid hS
  have HSZ := Lib.hid hs
  have hlI : (L.length : Int) ≤ 40 := by omega
  clear hS hs
  go_enter Try.func10, Try.ntmps10
  go_wp2_with fail
  go_loopw [3, 4, 5] (fun x y i wr => ∃ (k : Nat) (fsv fv : Value), k ≤ L.length ∧ fsv = x ∧ fv = y ∧ i = .int .i64 k ∧ Hid (At w wr fsv fv (runL (p2s (L.take k))) (k * 700))) (fun _ _ i _ => L.length - (intOf i).toNat)
  case atStart => exact ⟨0, _, _, by omega, rfl, rfl, rfl, ⟨[], [], [], ⟨Flds.nil _ _, Row.nil _ _, (fun u hu => by cases hu), Below.refl _ _⟩, rfl, by simp, by simp, fun f hf => by cases hf⟩⟩
  case round =>
    obtain ⟨k, fsv, fv, hk, rfl, rfl, rfl, HA⟩ := hrel
    by_cases hlt : k < L.length
    · have hltI : (k : Int) < (L.length : Int) := by omega
      have hltd : decide ((k : Int) < (L.length : Int)) = true := decide_eq_true hltI
      have hk0 : (0 : Int) ≤ (k : Int) := by omega
      obtain ⟨b, off, wa, wc, e1, e8, hb, q0, q1, q2, q3, q4, q5⟩ := (HS.out.below HA.out.old).at hlt
      subst e1
      clear e8
      have hsz := HSZ.out L[k] (List.getElem_mem hlt)
      have HT := Lib.hid (take_p2 hlt)
      obtain ⟨kd, hkd⟩ : ∃ kd, L[k].k = kd := ⟨_, rfl⟩
      obtain ⟨t, ht⟩ : ∃ t, L[k].t = t := ⟨_, rfl⟩
      have HP : Hid (L[k].p2 = (kd, t.data.toList)) := by unfold Hid Pt.p2; rw [hkd, ht]
      rw [hkd] at q0 hsz
      rw [ht] at q1 hsz
      have ad := add6 b off k
      have HSZT := Lib.hid hsz.1
      clear hkd ht hsz
      by_cases h1 : kd = 1
      · subst h1
        have HG : Hid (tx (runL (p2s (L.take k))).1 (runL (p2s (L.take k))).2 t.data.toList = runL (p2s (L.take (k + 1)))) := by
          rw [Hid, HT.out, runL_snoc, HP.out]; rfl
        have HI0 : Hid (InL w wr fsv fv t 0 0 (runL (p2s (L.take (k + 1)))) (k * 700 + 0)) := .inl ⟨Nat.zero_le _, Nat.le_refl _, _, HA.out, HG.out⟩
        obtain ⟨G, hG⟩ : ∃ G, runL (p2s (L.take (k + 1))) = G := ⟨_, rfl⟩
        rw [hG] at HI0
        have HGG := Lib.hid hG
        clear hG HG HP HT q2 q3 q4 q5
        go_wp2_with fail
        go_loopw [3, 4, 7, 8] (fun x y fr z wx => ∃ (p f0 : Nat) (fsv fv : Value), p ≤ t.size + 1 ∧ fsv = x ∧ fv = y ∧ fr = .int .i64 f0 ∧ z = .int .i64 p ∧ Hid (InL w wx fsv fv t f0 p G (k * 700 + 2 * p))) (fun _ _ _ z _ => t.size + 1 - (intOf z).toNat)
        case atStart => exact ⟨0, 0, _, _, by omega, rfl, rfl, rfl, rfl, HI0.out⟩
        case round =>
          obtain ⟨p, f0, fsv, fv, hp, rfl, rfl, rfl, rfl, HI⟩ := hrel
          have hts : t.size ≤ 300 := HSZT.out
          rcases HI.out with ⟨hpt, hfp, st, hat, hgo⟩ | ⟨rfl, hat⟩
          · have hpI : (p : Int) ≤ (t.size : Int) := by omega
            have hpd : decide ((p : Int) ≤ (t.size : Int)) = true := decide_eq_true hpI
            have hp0 : (0 : Int) ≤ (p : Int) := by omega
            obtain ⟨hE1, hE2⟩ := ext_dt hfp hpt
            obtain ⟨acc, hacc⟩ : ∃ acc, (t.data.toList.take p).drop f0 = acc := ⟨_, rfl⟩
            rw [hacc] at hgo hE1
            have hal : acc.length = p - f0 := by
              rw [← hE1, show (t.extract f0 p).data.toList.length = (t.extract f0 p).size from Array.length_toList, hE2]
            obtain ⟨E, hE⟩ : ∃ E, t.extract f0 p = E := ⟨_, rfl⟩
            rw [hE] at hE1
            have HAT := Lib.hid hat
            have hf0 : (0 : Int) ≤ (f0 : Int) := by omega
            have hfpI : (f0 : Int) ≤ (p : Int) := by omega
            clear HI hat hE2
            by_cases hpl : p < t.size
            · have hplI : (p : Int) < (t.size : Int) := by omega
              have hpld : decide ((p : Int) < (t.size : Int)) = true := decide_eq_true hplI
              have htk := take_one hpl hfp
              rw [drop_one hpl] at hgo
              rw [hacc] at htk
              obtain ⟨c, hc⟩ : ∃ c, t[p]'hpl = c := ⟨_, rfl⟩
              rw [hc] at hgo htk
              have hBL := fun wx => blank_any c wx
              have HBL := Lib.hid hBL
              clear hBL
              cases hib : isBl c with
              | false =>
                have HNX : Hid (InL w wr fsv fv t f0 (p + 1) G (k * 700 + 2 * (p + 1))) := by
                  refine .inl ⟨by omega, by omega, st, HAT.out.mono (by omega), ?_⟩
                  rw [htk]
                  rw [txB, if_neg (by simp [hib])] at hgo
                  exact hgo
                rw [hib] at HBL
                clear hgo htk hacc hE1 hE hib
                go_wp2_with (go_at_call 18; refine (HBL.out _).mono ?_; rintro e w5 ⟨rfl, h5⟩; obtain rfl := h5.symm; simp only [])
                go_roundw
                case measure => simp [intOf]; omega
                case rel => exact ⟨p + 1, f0, _, _, by omega, rfl, rfl, rfl, by go_num, HNX.out⟩
              | true =>
                rw [txB, if_pos hib] at hgo
                rw [hib] at HBL
                have hdn : (t.data.toList.take (p + 1)).drop (p + 1) = [] := by
                  apply List.drop_eq_nil_of_le; rw [List.length_take]; omega
                have hnew : ∀ wx fsx fvx st2, At w wx fsx fvx (st2, []) (k * 700 + 2 * (p + 1)) → shut st.1 (wt st.2 acc) = st2 → InL w wx fsx fvx t (p + 1) (p + 1) G (k * 700 + 2 * (p + 1)) := by
                  intro wx fsx fvx st2 h1 h2
                  refine .inl ⟨by omega, Nat.le_refl _, _, h1, ?_⟩
                  rw [hdn, ← h2]; exact hgo
                have HNEW := Lib.hid hnew
                clear hnew hdn htk hib hgo hacc
                by_cases hgt : f0 < p
                · have hgtI : (f0 : Int) < (p : Int) := by omega
                  have hgtd : decide ((f0 : Int) < (p : Int)) = true := decide_eq_true hgtI
                  have hane : acc ≠ [] := fun e => by rw [e] at hal; simp at hal; omega
                  obtain ⟨v6, w6, r6, h6⟩ := HAT.out.part (by omega) (lit 1 E) (lit_ok _ _)
                  obtain ⟨⟨s6, c6, e6⟩, _, hl6⟩ := h6.form
                  obtain ⟨v7, w7, r7, h7⟩ := h6.push (by omega) (by simp)
                  have HNX : Hid (InL w w7 v7 (.slice none 0 0) t (p + 1) (p + 1) G (k * 700 + 2 * (p + 1))) := by
                    refine HNEW.out _ _ _ _ (h7.mono (by omega)) ?_
                    have : wt st.2 acc = st.2 ++ [(lit 1 E).p2] := by
                      unfold wt; rw [if_neg hane]; simp [lit, Pt.p2, hE1]
                    rw [this]
                  obtain ⟨n6, hn6⟩ : ∃ n, (st.2 ++ [(lit 1 E).p2]).length = n := ⟨_, rfl⟩
                  simp only at e6
                  rw [hn6] at e6
                  have hn60 : 0 < n6 := by rw [← hn6]; simp
                  have hn6I : (0 : Int) < (n6 : Int) := by omega
                  have hn6d : decide ((0 : Int) < (n6 : Int)) = true := decide_eq_true hn6I
                  subst e6
                  have r6' : (Builtin.append_ #[22, 22] 22 #[fv, .slice (some ⟨wr.heap.size, 0, none⟩) 1 1]).run Try.prog (wr.alloc (.cells #[.int .i64 1, .string E, .string ⟨#[]⟩, .string ⟨#[]⟩, .slice none 0 0, .bool false] 31)) = .ok (.slice s6 n6 c6) w6 := r6
                  clear r6 h6 h7 hn6 hl6 hane hE1 HNEW HAT hal
                  go_wp2_with (first
                    | (go_at_call 18; refine (HBL.out _).mono ?_; rintro e w5 ⟨rfl, h5⟩; obtain rfl := h5.symm; simp only [])
                    | (at_builtin; refine wpList_run_append _ rfl _ _ 22 22 rfl _ _ rfl rfl r6' ?_)
                    | (at_builtin; refine wpList_run_append _ rfl _ _ 26 26 rfl _ _ rfl rfl r7 ?_))
                  go_roundw
                  case measure => simp [intOf]; omega
                  case rel => exact ⟨p + 1, p + 1, _, _, by omega, rfl, rfl, by go_num, by go_num, HNX.out⟩
                · obtain rfl : f0 = p := by omega
                  have hgtd : decide ((f0 : Int) < (f0 : Int)) = false := decide_eq_false (by omega)
                  have ha0 : acc = [] := List.length_eq_zero_iff.1 (by omega)
                  subst ha0
                  obtain ⟨⟨s6, c6, e6⟩, _, hl6⟩ := HAT.out.form
                  by_cases hs0 : st.2 = []
                  · rw [hs0, List.length_nil] at e6
                    subst e6
                    have HNX : Hid (InL w wr fsv (.slice s6 0 c6) t (f0 + 1) (f0 + 1) G (k * 700 + 2 * (f0 + 1))) := by
                      refine HNEW.out _ _ _ st.1 ?_ ?_
                      · have := HAT.out
                        rw [show st = (st.1, []) by rw [← hs0]] at this
                        exact this.mono (by omega)
                      · rw [wt_nil, hs0, shut_nil]
                    clear HNEW HAT hs0 hl6 hE1 hE
                    go_wp2_with (go_at_call 18; refine (HBL.out _).mono ?_; rintro e w5 ⟨rfl, h5⟩; obtain rfl := h5.symm; simp only [])
                    go_roundw
                    case measure => simp [intOf]; omega
                    case rel => exact ⟨f0 + 1, f0 + 1, _, _, by omega, rfl, rfl, by go_num, by go_num, HNX.out⟩
                  · obtain ⟨v7, w7, r7, h7⟩ := HAT.out.push (by omega) hs0
                    have HNX : Hid (InL w w7 v7 (.slice none 0 0) t (f0 + 1) (f0 + 1) G (k * 700 + 2 * (f0 + 1))) :=
                      HNEW.out _ _ _ _ (h7.mono (by omega)) (by rw [wt_nil])
                    obtain ⟨n6, hn6⟩ : ∃ n, st.2.length = n := ⟨_, rfl⟩
                    rw [hn6] at e6
                    have hn60 : 0 < n6 := by rw [← hn6]; exact List.length_pos_iff.2 hs0
                    have hn6I : (0 : Int) < (n6 : Int) := by omega
                    have hn6d : decide ((0 : Int) < (n6 : Int)) = true := decide_eq_true hn6I
                    subst e6
                    clear HNEW HAT hs0 hl6 hE1 hE hn6 h7
                    go_wp2_with (first
                      | (go_at_call 18; refine (HBL.out _).mono ?_; rintro e w5 ⟨rfl, h5⟩; obtain rfl := h5.symm; simp only [])
                      | (at_builtin; refine wpList_run_append _ rfl _ _ 26 26 rfl _ _ rfl rfl r7 ?_))
                    go_roundw
                    case measure => simp [intOf]; omega
                    case rel => exact ⟨f0 + 1, f0 + 1, _, _, by omega, rfl, rfl, by go_num, by go_num, HNX.out⟩
            · obtain rfl : p = t.size := by omega
              have hpld : decide ((t.size : Int) < (t.size : Int)) = false := decide_eq_false (by omega)
              rw [List.drop_of_length_le (by rw [show t.data.toList.length = t.size from Array.length_toList]; exact Nat.le_refl _), txB] at hgo
              by_cases hgt : f0 < t.size
              · have hgtI : (f0 : Int) < (t.size : Int) := by omega
                have hgtd : decide ((f0 : Int) < (t.size : Int)) = true := decide_eq_true hgtI
                have hane : acc ≠ [] := fun e => by rw [e] at hal; simp at hal; omega
                obtain ⟨v6, w6, r6, h6⟩ := HAT.out.part (by omega) (lit 1 E) (lit_ok _ _)
                have HNX : Hid (InL w w6 fsv v6 t (t.size + 1) (t.size + 1) G (k * 700 + 2 * (t.size + 1))) := by
                  refine .inr ⟨rfl, ?_⟩
                  have : (st.1, wt st.2 acc) = (st.1, st.2 ++ [(lit 1 E).p2]) := by
                    unfold wt; rw [if_neg hane]; simp [lit, Pt.p2, hE1]
                  rw [← hgo, this]
                  exact h6.mono (by omega)
                have r6' : (Builtin.append_ #[22, 22] 22 #[fv, .slice (some ⟨wr.heap.size, 0, none⟩) 1 1]).run Try.prog (wr.alloc (.cells #[.int .i64 1, .string E, .string ⟨#[]⟩, .string ⟨#[]⟩, .slice none 0 0, .bool false] 31)) = .ok v6 w6 := r6
                clear r6 h6 hane hE1 HAT hal hgo hacc
                go_wp2_with (at_builtin; refine wpList_run_append _ rfl _ _ 22 22 rfl _ _ rfl rfl r6' ?_)
                go_roundw
                case measure => simp [intOf]
                case rel => exact ⟨t.size + 1, t.size + 1, _, _, by omega, rfl, rfl, by go_num, by go_num, HNX.out⟩
              · obtain rfl : f0 = t.size := by omega
                have hgtd : decide ((t.size : Int) < (t.size : Int)) = false := decide_eq_false (by omega)
                have ha0 : acc = [] := List.length_eq_zero_iff.1 (by omega)
                subst ha0
                have HNX : Hid (InL w wr fsv fv t (t.size + 1) (t.size + 1) G (k * 700 + 2 * (t.size + 1))) := by
                  refine .inr ⟨rfl, ?_⟩
                  rw [wt_nil] at hgo
                  rw [← hgo]
                  exact HAT.out.mono (by omega)
                clear hE1 HAT hal hgo hacc hE
                go_wp2_with fail
                go_roundw
                case measure => simp [intOf]
                case rel => exact ⟨t.size + 1, t.size + 1, _, _, by omega, rfl, rfl, by go_num, by go_num, HNX.out⟩
          · have hpd : decide ((((t.size + 1 : Nat)) : Int) ≤ (t.size : Int)) = false := decide_eq_false (by omega)
            have hpd2 : decide (((t.size : Int) + 1) ≤ (t.size : Int)) = false := decide_eq_false (by omega)
            have HNX : Hid (At w wr fsv fv (runL (p2s (L.take (k + 1)))) ((k + 1) * 700)) := by
              rw [Hid, HGG.out]; exact hat.mono (by omega)
            clear HI hat
            go_wp2_with fail
            go_roundw
            case measure => simp [intOf]; omega
            case rel => exact ⟨k + 1, _, _, by omega, rfl, rfl, by go_num, HNX.out⟩
      · have h1' : (kd == 1) = false := by simpa using h1
        have HG : Hid (runL (p2s (L.take (k + 1))) = ((runL (p2s (L.take k))).1, (runL (p2s (L.take k))).2 ++ [(kd, t.data.toList)])) := by
          rw [Hid, HT.out, runL_snoc, HP.out]; unfold onePart; rw [if_neg h1]
        obtain ⟨v6, w6, r6, h6⟩ := HA.out.part (by omega) ⟨kd, t, .slice wa 0 wc⟩ ⟨wa, wc, rfl⟩
        have HNX : Hid (At w w6 fsv v6 (runL (p2s (L.take (k + 1)))) ((k + 1) * 700)) := by
          rw [Hid, HG.out]; exact h6.mono (by omega)
        have r6' : (Builtin.append_ #[22, 22] 22 #[fv, .slice (some ⟨wr.heap.size, 0, none⟩) 1 1]).run Try.prog (wr.alloc (.cells #[.int .i64 kd, .string t, .string ⟨#[]⟩, .string ⟨#[]⟩, .slice wa 0 wc, .bool false] 31)) = .ok v6 w6 := r6
        clear r6 h6 HG HP HT
        go_wp2_with (at_builtin; refine wpList_run_append _ rfl _ _ 22 22 rfl _ _ rfl rfl r6' ?_)
        go_roundw
        case measure => simp [intOf]; omega
        case rel => exact ⟨k + 1, _, _, by omega, rfl, rfl, by go_num, HNX.out⟩
    · obtain rfl : k = L.length := by omega
      have hltd : decide ((L.length : Int) < (L.length : Int)) = false := decide_eq_false (by omega)
      have HA2 : Hid (At w wr fsv fv (runL (p2s L)) (L.length * 700)) := by
        have := HA.out
        rw [List.take_length] at this
        exact this
      obtain ⟨vals, FS, F, hst, hp, hFS, hFl, hFA⟩ := HA2.out.ex
      obtain ⟨s6, c6, e6⟩ := hst.f.form
      subst e6
      clear HA HA2
      by_cases h6 : F = []
      · subst h6
        have HE : Hid (SplitR w (splitL (p2s L)) (.returned fsv) wr) := by
          refine ⟨fsv, vals, FS, rfl, hst.fs, ?_, by omega, ?_, hst.old⟩
          · unfold splitL; rw [← hp]; exact (shut_nil _).symm
          · intro f hf; have := hFA f hf; omega
        clear hst hp hFA
        simp only [List.length_nil] at *
        go_wp2_with fail
        go_ret
        exact HE.out
      · have h6l : (0 : Int) < (F.length : Int) := by
          have := List.length_pos_iff.2 h6
          omega
        have h6d : decide ((0 : Int) < (F.length : Int)) = true := decide_eq_true h6l
        obtain ⟨v8, w8, hrun, hst8⟩ := hst.push (by omega) 26
        have hrun' : (Builtin.append_ #[26, 26] 26 #[fsv, .slice (some ⟨wr.heap.size, 0, none⟩) 1 1]).run Try.prog (wr.alloc (.cells #[.slice s6 F.length c6] 22)) = .ok v8 w8 := hrun
        have HE : Hid (SplitR w (splitL (p2s L)) (.returned v8) w8) := by
          refine ⟨v8, _, _, rfl, hst8.fs, ?_, by rw [List.length_append, List.length_singleton]; omega, ?_, hst8.old⟩
          · unfold splitL; rw [← hp, shut_p3, if_neg h6]
          · intro f hf
            rcases List.mem_append.1 hf with hf | hf
            · have := hFA f hf; omega
            · rw [List.mem_singleton] at hf; subst hf; omega
        clear hst hst8 hp hrun hFA
        go_wp2_with (at_builtin; refine wpList_run_append _ rfl _ _ 26 26 rfl _ _ rfl rfl hrun' ?_)
        go_ret
        exact HE.out
end Go.Proofs.Ytdkkfcpnfhfjdaa
