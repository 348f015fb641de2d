import Derived.Test.YtdiggmlickdfdaaDoorVY
namespace Go.Proofs.YtdiggmlickdfdaaDoor
open Go.RowKit Go.Maps Go.ChangeMaps
set_option linter.unusedVariables false
def wl (L : List ByteArray) (k : Nat) : List Bs := ((L.take k).map fun s => s.data.toList).foldl putS []
structure Inv (w : World) (B f : Nat) (L : List ByteArray) (k : Nat) (wv : Value) : Prop where
  ex : ∃ F T c, Fs w B (2 + k) f c T F ∧ (∀ j, F j → B ≤ j ∧ j < w.heap.size) ∧ Tq T (((L.take k).map fun s => s.data.toList).reverse) ∧ Ck c (2 + k) ∧ Want w F wv (wl L k)
theorem fold_len : ∀ (xs l : List Bs), (xs.foldl putS l).length ≤ l.length + xs.length
  | [], l => by simp
  | x :: xs, l => by
    have h1 := fold_len xs (putS l x)
    have h2 := putS_len l x
    rw [List.foldl_cons, List.length_cons]; omega
theorem wl_len (L : List ByteArray) (k : Nat) : (wl L k).length ≤ k := by
  have := fold_len ((L.take k).map fun s => s.data.toList) []
  unfold wl
  simp at this ⊢
  omega
theorem step_below {w wr w6 w7 : World} {B N f k : Nat} {F : Nat → Prop} {S : List Bz} {s : Bz} {e : Ending} (hr : Below B w wr) (hB : B ≤ wr.heap.size) (hF : ∀ j, F j → B ≤ j ∧ j < wr.heap.size) (hst : StepP wr B N f F S s k e w6) (h7 : Below w6.heap.size w6 w7) : Below B w w7 := by
  obtain ⟨_, _, _, ⟨_, _, ho⟩, _⟩ := hst
  exact (hr.trans (ho.below (fun j hj => (hF j hj).1) hB)).trans (h7.mono (Nat.le_trans hB ho.size))
theorem at_lt (s : ByteArray) (c : UInt8) (h : ∀ x ∈ s.data.toList, x ≠ c) : at_ s c (s.size + 1) 0 < 0 := by
  by_cases e : 0 ≤ at_ s c (s.size + 1) 0
  · exact absurd rfl (h c ((at_mem s c).1 e))
  · omega
theorem At_in (s : ByteArray) (w : World) (hs : s.size ≤ 4000000) : (Calls Tryd.prog 15 #[.string s, .int .u8 47] w fun e w' => e = .returned (.int .i64 (at_ s 47 (s.size + 1) 0)) ∧ w' = w) ∧ (Calls Tryd.prog 15 #[.string s, .int .u8 0] w fun e w' => e = .returned (.int .i64 (at_ s 0 (s.size + 1) 0)) ∧ w' = w) :=
  ⟨At_any s 47 w hs, At_any s 0 w hs⟩
theorem nm_facts {s : ByteArray} (h : Nm s.data.toList) : s.toList.isEmpty = false ∧ (s.toList == [46]) = false ∧ (s.toList == [46, 46]) = false ∧ decide ((60 : Int) < (s.size : Int)) = false ∧ decide ((0 : Int) ≤ at_ s 47 (s.size + 1) 0) = false ∧ decide ((0 : Int) ≤ at_ s 0 (s.size + 1) 0) = false := by
  have hl : s.data.toList.length = s.size := Array.length_toList
  have hle := h.le
  have a1 := at_lt s 47 h.no
  have a2 := at_lt s 0 h.nul
  rw [Lib.toList_data]
  refine ⟨?_, ?_, ?_, decide_eq_false (by omega), decide_eq_false (by omega), decide_eq_false (by omega)⟩
  · rw [List.isEmpty_eq_false_iff]; exact h.ne
  · rw [beq_eq_false_iff_ne]; exact h.dot
  · rw [beq_eq_false_iff_ne]; exact h.dots
theorem nm_of {s : ByteArray} (h1 : s.toList.isEmpty = false) (h2 : (s.toList == [46]) = false) (h3 : (s.toList == [46, 46]) = false) (h4 : ¬ 60 < s.size) (h5 : decide ((0 : Int) ≤ at_ s 47 (s.size + 1) 0) = false) (h6 : decide ((0 : Int) ≤ at_ s 0 (s.size + 1) 0) = false) : Nm s.data.toList := by
  have hl : s.data.toList.length = s.size := Array.length_toList
  rw [Lib.toList_data] at h1 h2 h3
  refine ⟨List.isEmpty_eq_false_iff.1 h1, beq_eq_false_iff_ne.1 h2, beq_eq_false_iff_ne.1 h3, fun c hc e => ?_, fun c hc e => ?_, by omega⟩
  · subst e; exact of_decide_eq_false h5 ((at_mem s 47).2 hc)
  · subst e; exact of_decide_eq_false h6 ((at_mem s 0).2 hc)
theorem strs_sl {w : World} {a : Option Addr} {n c : Nat} {l : List Bs} (h : SlS w (.slice a n c) l) : StrsL w a l := by
  intro h0
  rcases h with ⟨_, rfl⟩ | ⟨g, off, c', e, h1, h2, h3, h4⟩
  · simp at h0
  · injection e with e _ _
    exact ⟨g, off, e, h3, h4⟩
theorem row_slice {w : World} {B n : Nat} {v : Value} {xs : List Value} (h : w.ownsRow B 9 1 v n xs) : ∃ a c, v = .slice a n c := by
  rcases h.2 with ⟨rfl, rfl⟩ | ⟨g, cap, cur, rfl, _⟩
  · exact ⟨none, 0, rfl⟩
  · exact ⟨_, _, rfl⟩
theorem lists_eq {T : Tr} {L : List ByteArray} {l : List Bs} (hr : Ris l) (hm : ∀ x, x ∈ l ↔ (T ([[100]] ++ [x])).isSome = true) (hT : Tq T (((L.take L.length).map fun s => s.data.toList).reverse)) : l = wl L L.length := by
  have hw := fold_spec ((L.take L.length).map fun s => s.data.toList) [] List.Pairwise.nil
  refine ris_eq hr hw.1 fun x => ?_
  unfold wl
  rw [hm x, hw.2 x]
  have := hT.has x
  rw [show ([[100]] : Pth) ++ [x] = [[100], x] from rfl, this]
  simp
theorem Inv.step {w w' w'' : World} {B f k : Nat} {L : List ByteArray} {wv wv' : Value} {F : Nat → Prop} {T : Tr} {e : Ending} {s : ByteArray} (hk : k < L.length) (hs : L[k] = s) (hF : ∀ j, F j → B ≤ j ∧ j < w.heap.size) (hB : B ≤ w.heap.size) (hT : Tq T (((L.take k).map fun s => s.data.toList).reverse)) (hW : Want w F wv (wl L k))
    (hst : StepP w B (2 + k) f F (((L.take k).map fun s => s.data.toList).reverse) s.data.toList (2 + k) e w') (hp : SlN w' w'' wv wv' (wl L k) (putS (wl L k) s.data.toList)) (hb : Below w'.heap.size w' w'') : Inv w'' B f L (k + 1) wv' := by
  obtain ⟨er, T', c', ⟨_, hf, ho⟩, hT', hc'⟩ := hst
  have htk : L.take (k + 1) = L.take k ++ [s] := by rw [← hs]; exact (List.take_append_getElem hk).symm
  have hW' := hW.mut ho
  have hFlt : ∀ j, ((F j ∨ w.heap.size ≤ j) ∧ j < w'.heap.size) → j < w'.heap.size := fun j h => h.2
  refine ⟨fun j => (F j ∨ w.heap.size ≤ j) ∧ j < w'.heap.size, T', c', (hf.cap).below hb, fun j hj => ⟨?_, Nat.lt_of_lt_of_le hj.2 hb.size⟩, ?_, hc', ?_⟩
  · rcases hj.1 with e | e
    · exact (hF j e).1
    · omega
  · rw [htk, List.map_append, List.reverse_append]; exact hT'
  · have := hW'.put hFlt hp hb
    rw [show wl L (k + 1) = putS (wl L k) s.data.toList by simp [wl, htk]]
    exact this
set_option maxRecDepth 100000 in
set_option maxHeartbeats 8000000 in
theorem lists_walk (v0 v1 : Value) (L : List ByteArray) (D : List Bool) (w : World) (h0 : Txt w v0 L) (h1 : Bls w v1 D) (hs : ∀ x ∈ L, x.size ≤ maxLen) : Calls Tryd.prog 4 #[v0, v1] w fun e w' => e = .returned (.bool true) ∧ Below w.heap.size w w' := by
  obtain ⟨a0, c0, rfl, hx0⟩ := h0.form
  obtain ⟨a1, c1, rfl, hx1⟩ := h1.form
  have HL := Lib.hid alive_any
  by_cases hlen : 20 < L.length ∨ D.length < L.length
  · by_cases h20 : 20 < L.length
    · have g1 : decide ((20 : Int) < (L.length : Int)) = true := decide_eq_true (by omega)
      clear h0 h1 hx0 hx1 hs
      go_enter Tryd.func4, Tryd.ntmps4
      go_wp2_with (go_at_call 5; refine (HL.out _).mono ?_; rintro e w1 ⟨rfl, h2⟩; have HA := Lib.hid h2; clear h2; simp only [])
      go_ret
      exact ⟨rfl, HA.out⟩
    · have g1 : decide ((20 : Int) < (L.length : Int)) = false := decide_eq_false (by omega)
      have g2 : decide ((D.length : Int) < (L.length : Int)) = true := decide_eq_true (by omega)
      clear h0 h1 hx0 hx1 hs
      go_enter Tryd.func4, Tryd.ntmps4
      go_wp2_with (go_at_call 5; refine (HL.out _).mono ?_; rintro e w1 ⟨rfl, h2⟩; have HA := Lib.hid h2; clear h2; simp only [])
      go_ret
      exact ⟨rfl, HA.out⟩
  · have h20 : ¬ 20 < L.length := fun e => hlen (.inl e)
    have hdl : ¬ D.length < L.length := fun e => hlen (.inr e)
    have g1 : decide ((20 : Int) < (L.length : Int)) = false := decide_eq_false (by omega)
    have g2 : decide ((D.length : Int) < (L.length : Int)) = false := decide_eq_false (by omega)
    have H0 := Lib.hid h0
    have H1 := Lib.hid h1
    have HS := Lib.hid hs
    clear hlen h0 h1 hs hx0 hx1
    go_enter Tryd.func4, Tryd.ntmps4
    go_wp2_with (first
      | (go_at_call 5; refine (HL.out _).mono ?_; rintro e w1 ⟨rfl, h2⟩; have HA := Lib.hid h2; clear h2; simp only [])
      | (go_at_call 6; refine (New50 _ (B := w.heap.size) HA.out.size).mono ?_; rintro e w2 ⟨f, rfl, hf, h2⟩; have HF2 := Lib.hid hf; have HB2 := Lib.hid h2; clear hf h2; simp only [])
      | (go_at_call 7; refine (Mk_d _ HF2.out (Nat.le_trans HA.out.size HB2.out.size)).mono ?_; rintro e w3 ⟨rfl, hf, h2⟩; have HF3 := Lib.hid hf; have HO3 := Lib.hid h2; clear hf h2; simp only [])
      | (go_at_call 8; refine (Wr_x _ HF3.out (Nat.le_trans HA.out.size (Nat.le_trans HB2.out.size HO3.out.size))).mono ?_; rintro e w4 ⟨rfl, hf, h2⟩; have HF4 := Lib.hid hf; have HO4 := Lib.hid h2; clear hf h2; simp only []))
    have hB : w.heap.size ≤ w1.heap.size := HA.out.size
    have hB2 : w1.heap.size ≤ w2.heap.size := HB2.out.size
    have hB3 : w2.heap.size ≤ w3.heap.size := HO3.out.size
    have bel4 : Below w.heap.size w w4 := ((HA.out.trans (HB2.out.mono hB)).trans (HO3.out.below (fun k hk => Nat.le_trans hB hk.1) (Nat.le_trans hB hB2))).trans (HO4.out.below (fun k hk => by rcases hk with e | e; exact Nat.le_trans hB e.1; omega) (by omega))
    have hinv : Inv w4 w.heap.size f L 0 (.slice none 0 0) := by
      refine ⟨fun j => w.heap.size ≤ j ∧ j < w4.heap.size, T2, ⟨50, 50, 2, 0, 2⟩, HF4.out.cap.imp (fun j hj => ⟨?_, hj.2⟩), fun j hj => hj, Tq2, Ck2, ⟨.inl ⟨rfl, rfl⟩, fun g hg => by cases hg⟩⟩
      rcases hj.1 with e | e
      · rcases e with e | e
        · exact Nat.le_trans hB e.1
        · omega
      · omega
    have HINV := Lib.hid hinv
    have HBEL := Lib.hid bel4
    clear hinv bel4 hB hB2 hB3 HF4 HF3 HF2 HO3 HO4 HB2 HA
    go_loopw [7, 8] (fun wv i wx => ∃ k : Nat, k ≤ L.length ∧ i = .int .i64 k ∧ Hid (Inv wx w.heap.size f L k wv ∧ Below w.heap.size w wx)) (fun _ i _ => L.length - (intOf i).toNat)
    case atStart => exact ⟨0, Nat.zero_le _, rfl, HINV.out, HBEL.out⟩
    case round =>
      obtain ⟨k, hk, rfl, HR⟩ := hrel
      by_cases hlt : k < L.length
      · have hltd : decide ((k : Int) < (L.length : Int)) = true := decide_eq_true (by omega)
        have b1 : IntKind.i64.wrap ((k : Int) + 1) = (k : Int) + 1 := IntWalk.i64_in _ (by omega)
        have hk0 : (0 : Int) ≤ (k : Int) := by omega
        have hkI : (k : Int) < (L.length : Int) := by omega
        have hkD : (k : Int) < (D.length : Int) := by omega
        have hbw : Below w.heap.size w wr := HR.out.2
        obtain ⟨x0, y0, e0, z0⟩ := (H0.out.below hbw).form
        injection e0 with e0 _ e0'
        subst e0
        obtain ⟨b0, o0, rfl, _, t0⟩ := z0 k hlt
        obtain ⟨x1, y1, e1, z1⟩ := (H1.out.below hbw).form
        injection e1 with e1 _ e1'
        subst e1
        obtain ⟨d0, p0, rfl, _, t1⟩ := z1 k (by omega)
        have ad0 := addn b0 o0 k
        have ad1 := addn d0 p0 k
        obtain ⟨s, hsx⟩ : ∃ s, L[k] = s := ⟨_, rfl⟩
        obtain ⟨dd, hdd⟩ : ∃ dd, D[k]'(by omega) = dd := ⟨_, rfl⟩
        rw [hsx] at t0
        rw [hdd] at t1
        clear z0 z1 hbw
        have hssz : s.size ≤ maxLen := HS.out s (by rw [← hsx]; exact List.getElem_mem _)
        by_cases hN : Nm s.data.toList
        · obtain ⟨f1, f2, f3, f4, f5, f6⟩ := nm_facts hN
          have hsz : s.size ≤ 4000000 := by
            have h1 : s.data.toList.length = s.size := Array.length_toList
            have := hN.le; omega
          have HN := Lib.hid hN
          have HSX := Lib.hid hsx
          have HAT := Lib.hid (fun w => At_in s w hsz)
          obtain ⟨z47, hz47⟩ : ∃ z, at_ s 47 (s.size + 1) 0 = z := ⟨_, rfl⟩
          obtain ⟨z00, hz00⟩ : ∃ z, at_ s 0 (s.size + 1) 0 = z := ⟨_, rfl⟩
          rw [hz47, hz00] at HAT
          rw [hz47] at f5
          rw [hz00] at f6
          clear hN hsx hz47 hz00
          obtain ⟨F, T, c, hF, hFb, hTq, hCk, hW⟩ := HR.out.1.ex
          have HF := Lib.hid hF
          have HFB := Lib.hid hFb
          have HTQ := Lib.hid hTq
          have HCK := Lib.hid hCk
          have HW := Lib.hid hW
          clear hF hFb hTq hCk hW
          have hbB : w.heap.size ≤ wr.heap.size := HR.out.2.size
          have hk40 : 2 + k ≤ 40 := by omega
          have hNm : 2 + k < maxLen := by unfold maxLen; omega
          have HPS : Hid (∀ (w : World), SlS w u7 (wl L k) → Calls Tryd.prog 16 #[u7, .string s] w fun e w' => ∃ v', e = .returned v' ∧ SlN w w' u7 v' (wl L k) (putS (wl L k) s.data.toList) ∧ Below w.heap.size w w') := fun w h => PutString_any u7 (wl L k) s.data.toList w h (by have := wl_len L k; omega)
          cases dd with
          | true =>
            go_wp2_with (first
              | (go_at_call 15; (first | (with_reducible refine (HAT.out _).1.mono ?_) | (with_reducible refine (HAT.out _).2.mono ?_)); rintro e w5 ⟨rfl, h5⟩; obtain rfl := h5.symm; simp only [])
              | (go_at_call 7; refine (mk_step s HN.out HF.out HTQ.out HCK.out hk40 hNm hbB).mono ?_; rintro e w6 hst; have HW6 : Hid (SlS w6 u7 (wl L k)) := (by obtain ⟨_, _, _, ⟨_, _, ho⟩, _⟩ := id hst; exact HW.out.sl.only ho (fun g hg => (HW.out.out g hg).1)); have HST := Lib.hid hst; obtain ⟨er, _, _, ⟨rfl, _⟩, _⟩ := hst; simp only [])
              | (go_at_call 16; refine (HPS.out _ (HW6.out)).mono ?_; rintro e w7 ⟨v7, rfl, hn7, hb7⟩; have HN7 := Lib.hid hn7; have HB7 := Lib.hid hb7; clear hn7 hb7; simp only []))
            go_roundw
            case measure => simp [intOf]; omega
            case rel =>
              refine ⟨k + 1, by omega, by go_num, Inv.step hlt HSX.out HFB.out hbB HTQ.out HW.out HST.out HN7.out HB7.out, step_below HR.out.2 hbB HFB.out HST.out HB7.out⟩
          | false =>
            go_wp2_with (first
              | (go_at_call 15; (first | (with_reducible refine (HAT.out _).1.mono ?_) | (with_reducible refine (HAT.out _).2.mono ?_)); rintro e w5 ⟨rfl, h5⟩; obtain rfl := h5.symm; simp only [])
              | (go_at_call 14; refine (touch_step s HN.out HF.out HTQ.out HCK.out hk40 hNm hbB).mono ?_; rintro e w6 hst; have HW6 : Hid (SlS w6 u7 (wl L k)) := (by obtain ⟨_, _, _, ⟨_, _, ho⟩, _⟩ := id hst; exact HW.out.sl.only ho (fun g hg => (HW.out.out g hg).1)); have HST := Lib.hid hst; obtain ⟨er, _, _, ⟨rfl, _⟩, _⟩ := hst; simp only [])
              | (go_at_call 16; refine (HPS.out _ (HW6.out)).mono ?_; rintro e w7 ⟨v7, rfl, hn7, hb7⟩; have HN7 := Lib.hid hn7; have HB7 := Lib.hid hb7; clear hn7 hb7; simp only []))
            go_roundw
            case measure => simp [intOf]; omega
            case rel =>
              refine ⟨k + 1, by omega, by go_num, Inv.step hlt HSX.out HFB.out hbB HTQ.out HW.out HST.out HN7.out HB7.out, step_below HR.out.2 hbB HFB.out HST.out HB7.out⟩
        · by_cases h60 : 60 < s.size
          · have f4 : decide ((60 : Int) < (s.size : Int)) = true := decide_eq_true (by omega)
            clear hN
            go_wp2_with fail
            all_goals (go_ret; exact ⟨rfl, HR.out.2⟩)
          · have f4 : decide ((60 : Int) < (s.size : Int)) = false := decide_eq_false (by omega)
            have HAT := Lib.hid (fun w => At_in s w (by omega))
            cases f1 : s.toList.isEmpty with
            | true =>
              clear hN
              go_wp2_with fail
              all_goals (go_ret; exact ⟨rfl, HR.out.2⟩)
            | false =>
            cases f2 : (s.toList == [46]) with
            | true =>
              clear hN
              go_wp2_with fail
              all_goals (go_ret; exact ⟨rfl, HR.out.2⟩)
            | false =>
            cases f3 : (s.toList == [46, 46]) with
            | true =>
              clear hN
              go_wp2_with fail
              all_goals (go_ret; exact ⟨rfl, HR.out.2⟩)
            | false =>
            cases f5 : decide ((0 : Int) ≤ at_ s 47 (s.size + 1) 0) with
            | true =>
              clear hN
              go_wp2_with (go_at_call 15; (first | (with_reducible refine (HAT.out _).1.mono ?_) | (with_reducible refine (HAT.out _).2.mono ?_)); rintro e w5 ⟨rfl, h5⟩; obtain rfl := h5.symm; simp only [])
              all_goals (go_ret; exact ⟨rfl, HR.out.2⟩)
            | false =>
            cases f6 : decide ((0 : Int) ≤ at_ s 0 (s.size + 1) 0) with
            | true =>
              clear hN
              go_wp2_with (go_at_call 15; (first | (with_reducible refine (HAT.out _).1.mono ?_) | (with_reducible refine (HAT.out _).2.mono ?_)); rintro e w5 ⟨rfl, h5⟩; obtain rfl := h5.symm; simp only [])
              all_goals (go_ret; exact ⟨rfl, HR.out.2⟩)
            | false => exact absurd (nm_of f1 f2 f3 h60 f5 f6) hN
      · obtain rfl : k = L.length := by omega
        have hltd : decide ((L.length : Int) < (L.length : Int)) = false := decide_eq_false (by omega)
        obtain ⟨F, T, c, hF, hFb, hTq, hCk, hW⟩ := HR.out.1.ex
        obtain ⟨A, M, V, hT, hft, r0, h00, hr0⟩ := hF
        obtain ⟨dn, hdn, hdf⟩ := hTq.dir
        obtain ⟨ua, uc, rfl⟩ := hW.sl.len
        have HLS := Lib.hid (List_dir (p := ⟨#[47, 100]⟩) hT h00 hr0 path_d.2.2 (path_d.2.1 T) (by rw [path_d.1]; exact hdn) hdf (by omega))
        rw [path_d.1] at HLS
        have HWW := Lib.hid hW.sl
        have HTQ := Lib.hid hTq
        have HNUM := Lib.hid num_any
        have hwl := wl_len L L.length
        clear hT hft h00 hr0 hdn hdf hW hTq hFb hCk
        go_wp2_with (first
          | (go_at_call 10; refine HLS.out.mono ?_; rintro e w5 ⟨v5, l5, rfl, hrow, hris, hmem, hb5⟩; obtain ⟨va, vc, rfl⟩ := row_slice hrow; have HROW := Lib.hid hrow; have HEQ := Lib.hid (lists_eq hris hmem HTQ.out); have HB5 := Lib.hid hb5; clear hrow hris hmem hb5; simp only [])
          | (go_at_call 12; refine (HNUM.out _ _).mono ?_; rintro e w6 ⟨rfl, h6⟩; obtain rfl := h6.symm; simp only [])
          | (go_at_call 17; refine (Same_any va ua l5 (wl L L.length) vc uc w5 (by rw [HEQ.out]; omega) (strs_own HROW.out) (strs_sl (HWW.out.below HB5.out)) true ⟨fun _ => HEQ.out, fun _ => rfl⟩).mono ?_; rintro e w7 ⟨rfl, m, rfl⟩; simp only []))
        go_ret
        exact ⟨rfl, below_drewN (HR.out.2.trans (HB5.out.mono HR.out.2.size)) m⟩
end Go.Proofs.YtdiggmlickdfdaaDoor
