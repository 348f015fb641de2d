import Derived.Test.YtjagnihkpgbjeaaDoorFC
namespace Go.Proofs.YtjagnihkpgbjeaaDoor
open Go.RowKit
set_option linter.unusedVariables false
/-! Special, Known, Has. -/
theorem run_app_strs (w : World) (B : Nat) (v u : Value) (L M : List Bs) (h : w.ownsRow B 9 1 v L.length (L.map encStr)) (hu : SlS w u M) (hl : L.length + M.length ≤ 1000000000) (hB : B ≤ w.heap.size) :
    ∃ v' w', (Builtin.append_ #[29, 29] 29 #[v, u]).run Tryd.prog w = .ok v' w' ∧ w'.ownsRow B 9 1 v' (L ++ M).length ((L ++ M).map encStr) ∧ Below B w w' := by
  obtain ⟨i0, hi, hz0, hz1, hz2⟩ := info_parts info9
  rcases hu with ⟨rfl, rfl⟩ | ⟨g, off, c, rfl, h1, h2, h3, h4⟩
  · exact ⟨v, w, run_append_owned_none w B 29 29 9 i0 1 Tryd.underlying29 hi v _ _ h, by simpa using h, Below.refl _ _⟩
  · obtain ⟨v', w', e1, e2, e3, _⟩ := run_append_own (P := Tryd.prog) w B 29 29 9 i0 _ 1 16 Tryd.underlying29 hi hz0 hz1 hz2 rfl (by decide) v L.length (L.map encStr) h ⟨g, off, none⟩ M.length c (M.map encStr) (by simp)
      (fun j u hj => by
        rw [addk]
        obtain ⟨hj1, hj2⟩ := List.getElem?_eq_some_iff.1 hj
        rw [h4 j (by simpa using hj1)]
        rw [← hj2]; simp) (by
        intro u hu
        obtain ⟨b, _, rfl⟩ := List.mem_map.1 hu
        rfl) (by unfold maxLen; omega) (by omega) hB
    refine ⟨v', w', e1, by rw [List.length_append, List.map_append]; exact e2, (Only.of_grown (S := fun i => v.ownBlock = some i) e3 (fun k hk => hk)).below (fun k hk => (h.lt k hk).1) hB⟩
/-- Texts in a row of the call's own. -/
structure StrO (w0 w : World) (v : Value) (L : List Bs) : Prop where
  own : w.ownsRow w0.heap.size 9 1 v L.length (L.map encStr)
  old : Below w0.heap.size w0 w
theorem StrO.sls {w0 w : World} {v : Value} {L : List Bs} (h : StrO w0 w v L) : SlS w v L := SlS.own h.own
theorem StrO.below {w0 w w' : World} {v : Value} {L : List Bs} (h : StrO w0 w v L) (hb : Below w.heap.size w w') : StrO w0 w' v L := ⟨own_keep3 h.own hb, h.old.trans (hb.mono h.old.size)⟩
theorem StrO.weak {w00 w0 w : World} {v : Value} {L : List Bs} (h : StrO w0 w v L) (hb : Below w00.heap.size w00 w0) : StrO w00 w v L := by
  refine ⟨⟨h.own.1, ?_⟩, hb.trans (h.old.mono hb.size)⟩
  rcases h.own.2 with hn | ⟨g, cap, cur, e, h1, r⟩
  · exact .inl hn
  · exact .inr ⟨g, cap, cur, e, Nat.le_trans hb.size h1, r⟩
theorem StrO.nil (w w' : World) (hb : Below w.heap.size w w') : StrO w w' (.slice none 0 0) [] := ⟨World.ownsRow_nil _ _ _ _, hb⟩
theorem StrO.app {w0 w : World} {v u : Value} {L M : List Bs} (h : StrO w0 w v L) (hu : SlS w u M) (hl : L.length + M.length ≤ 1000000000) :
    ∃ v' w', (Builtin.append_ #[29, 29] 29 #[v, u]).run Tryd.prog w = .ok v' w' ∧ StrO w0 w' v' (L ++ M) := by
  obtain ⟨v', w', e1, e2, e3⟩ := run_app_strs w w0.heap.size v u L M h.own hu hl h.old.size
  exact ⟨v', w', e1, e2, h.old.trans e3⟩
def specialF (rs : List Rl) (x : Bs) : List Bs := (plainF rs x).flatMap (·.ns)
def knownF (rs : List Rl) (x : Bs) : Bool := rs.any fun r => makesF r x
def hasF (rs : List Rl) (nm t : Bs) : Bool := (specialF rs nm).contains t || ((specialF rs nm).isEmpty && knownF rs nm)
/-- How many needs there are at the most. -/
def Few (rs : List Rl) : Prop := ∀ r ∈ rs, r.ns.length ≤ 100000
theorem few_len : ∀ (L : List Rl), Few L → (L.flatMap (·.ns)).length ≤ L.length * 100000
  | [], _ => by simp
  | r :: L, h => by
    have ih := few_len L (fun x hx => h x (List.mem_cons_of_mem _ hx))
    have := h r List.mem_cons_self
    rw [List.flatMap_cons, List.length_append, List.length_cons]
    omega
theorem RsV.few {w : World} {v : Value} {rs : List Rl} (h : RsV w v rs) : Few rs := by
  intro r hr
  rcases h with ⟨_, rfl⟩ | ⟨g, off, c, h1, h2, h3, h4, h5⟩
  · cases hr
  · obtain ⟨i, hi, rfl⟩ := List.mem_iff_getElem.1 hr
    obtain ⟨x, y, z, _, _, _, e⟩ := h5 i hi
    exact e.ln
def SpecialP (rs : List Rl) (x : Bs) (w : World) (e : Ending) (w' : World) : Prop := ∃ v, e = .returned v ∧ StrO w w' v (specialF rs x)
set_option maxRecDepth 100000 in
set_option maxHeartbeats 4000000 in
theorem Special_any (ms v : Value) (rs : List Rl) (x : ByteArray) (w : World) (hv : RsV w v rs) (hl : rs.length ≤ 1000) :
    Calls Tryd.prog 81 #[.agg #[ms, v], .string x] w (SpecialP rs x.data.toList w) := by
  have HP := Lib.hid (plain_any ms v rs x (w.alloc (.cells #[ms, v] 45)) (w.alloc (.cells #[ms, v] 45)) (hv.below (below_alloc _ _)) (Below.refl _ _) hl)
  have HL := Lib.hid (Nat.le_trans (plain_len rs x.data.toList) hl)
  have HFW : Hid (Few (plainF rs x.data.toList)) := fun r hr => hv.few r (List.mem_filter.1 hr).1
  unfold SpecialP specialF
  obtain ⟨P, hP⟩ : ∃ P, plainF rs x.data.toList = P := ⟨_, rfl⟩
  unfold PlainP at HP
  rw [hP] at HP HL HFW ⊢
  obtain ⟨Q, hQ⟩ : ∃ Q, (fun e w' => ∃ v, e = Ending.returned v ∧ StrO w w' v (P.flatMap (·.ns))) = Q := ⟨_, rfl⟩
  rw [hQ]
  have HQ := Lib.hid hQ
  obtain ⟨a, c, rfl⟩ := hv.len
  obtain ⟨mr, hmr⟩ : ∃ mr, rs.length = mr := ⟨_, rfl⟩
  rw [hmr] at HP ⊢
  clear hv hP hQ hl hmr
  go_enter Tryd.func81, Tryd.ntmps81
  go_wp2_with (go_at_call 51; refine HP.out.mono ?_; rintro e w1 ⟨u, rfl, h1⟩; have H1 := Lib.hid h1; have HU := Lib.hid (h1.rsv (Below.refl _ _)); clear h1; obtain ⟨b, d, hu⟩ := HU.out.len; rw [hu] at HU ⊢; clear hu; simp only [])
  obtain ⟨n, hn⟩ : ∃ n, P.length = n := ⟨_, rfl⟩
  rw [hn] at HU HL
  simp only [hn]
  have HN := Lib.hid hn
  have hnl : n ≤ 1000 := HL.out
  clear hn
  go_loopw [5, 12] (fun l i wr => ∃ k : Nat, k ≤ n ∧ i = .int .i64 k ∧ Hid (StrO w1 wr l ((P.take k).flatMap (·.ns)))) (fun _ i _ => n - (intOf i).toNat)
  case atStart => exact ⟨0, by omega, rfl, StrO.nil _ _ (Below.refl _ _)⟩
  case round =>
    obtain ⟨k, hk, rfl, HR⟩ := hrel
    by_cases hlt : k < n
    · have hltI : (k : Int) < (n : Int) := by omega
      have h0 : (0 : Int) ≤ (k : Int) := by omega
      have hlr : k < P.length := by rw [HN.out]; exact hlt
      obtain ⟨g, off, a0, n0, c0, a1, n1, c1, a2, n2, c2, rfl, q0, q1, q2, hr⟩ := HU.out.get2 HR.out.old k hlr
      have hadd := addk3 g off k
      have HR3 := Lib.hid hr
      have HT : Hid ((P.take (k + 1)).flatMap (·.ns) = (P.take k).flatMap (·.ns) ++ P[k].ns) := by rw [Hid, List.take_succ_eq_append_getElem hlr, List.flatMap_append]; simp
      have HLL : Hid (((P.take k).flatMap (·.ns)).length + P[k].ns.length ≤ 1000000000) := by
        have e1 := few_len (P.take k) (fun r hr => HFW.out r (List.mem_of_mem_take hr))
        have e2 := HFW.out P[k] (List.getElem_mem hlr)
        have e3 : (P.take k).length ≤ 1000 := by simp; omega
        show _ ≤ _
        omega
      clear hr
      go_wp2_with (at_builtin; obtain ⟨v', w', hrun, hro⟩ := (HR.out.below (below_alloc _ (.cells #[.slice a0 n0 c0, .slice a1 n1 c1, .slice a2 n2 c2] 48))).app (HR3.out.n.below (HR.out.old.trans ((below_alloc _ _).mono HR.out.old.size))) HLL.out; have HRO := Lib.hid hro; have HRUN := Lib.hid hrun; clear hrun hro; refine wpList_run_append _ rfl _ _ 29 29 rfl _ _ rfl rfl HRUN.out ?_)
      exact ⟨⟨k + 1, by omega, by go_num, by rw [HT.out]; exact HRO.out⟩, by simp [intOf]; omega⟩
    · have hltI : ¬ (k : Int) < (n : Int) := by omega
      go_wp2_with fail
      rw [← HQ.out]
      refine ⟨_, rfl, ?_⟩
      have := HR.out
      rw [List.take_of_length_le (by rw [HN.out]; omega)] at this
      exact this.weak ((below_alloc _ _).trans (H1.out.old.mono (by simp)))
set_option maxRecDepth 100000 in
set_option maxHeartbeats 1000000 in
theorem Known1_any (a b c : Value) (r : Rl) (x : ByteArray) (g : Nat) (w : World) (h : Rl3 w a b c r) (hc : w.cell? ⟨g, 0, none⟩ = some (.string x)) (hg : g < w.heap.size) (t : Bool) (ht : makesF r x.data.toList = t) :
    Calls Tryd.prog 112 #[.agg #[a, b, c], .pointer (some ⟨g, 0, none⟩)] w fun e w' => e = .returned (.bool t) ∧ Below w.heap.size w w' := by
  have HM := Lib.hid (makes_any a b c r x (w.alloc (.cells #[a, b, c] 48)) (h.below (below_alloc _ _)) t ht)
  have hne : g ≠ w.heap.size := by omega
  clear h ht
  go_enter Tryd.func112, Tryd.ntmps112
  go_wp2_with (go_at_call 77; refine HM.out.mono ?_; rintro e w1 ⟨rfl, h1⟩; have H1 := Lib.hid h1; clear h1; simp only [])
  go_ret
  exact ⟨rfl, (below_alloc _ _).trans (H1.out.mono (by simp))⟩
def IdxR (rs : List Rl) (x : Bs) (w : World) (e : Ending) (w' : World) : Prop := (∃ z : Int, e = .returned (.int .i64 z) ∧ IdxP z (knownF rs x = true)) ∧ Below w.heap.size w w'
set_option maxRecDepth 100000 in
set_option maxHeartbeats 4000000 in
theorem IndexR_any (v : Value) (rs : List Rl) (x : ByteArray) (g : Nat) (w : World) (hv : RsV w v rs) (hn : rs.length ≤ 1000) (hc : w.cell? ⟨g, 0, none⟩ = some (.string x)) (hg : g < w.heap.size) :
    Calls Tryd.prog 130 #[v, .func (.func 112) #[] #[.pointer (some ⟨g, 0, none⟩)]] w (IdxR rs x.data.toList w) := by
  obtain ⟨a, c, rfl⟩ := hv.len
  have HV := Lib.hid hv
  have HC := Lib.hid hc
  obtain ⟨n, hln⟩ : ∃ n, rs.length = n := ⟨_, rfl⟩
  rw [hln] at hn HV ⊢
  have HLN := Lib.hid hln
  clear hv hln hc
  go_enter Tryd.func130, Tryd.ntmps130
  go_wp2_with fail
  go_loopw [8] (fun i wr => ∃ k : Nat, k ≤ n ∧ i = .int .i64 k ∧ Hid (∀ j (h : j < rs.length), j < k → makesF rs[j] x.data.toList = false) ∧ Hid (Below w.heap.size w wr)) (fun i _ => n - (intOf i).toNat)
  case atStart => exact ⟨0, by omega, rfl, fun j _ hj => by omega, Below.refl _ _⟩
  case round =>
    obtain ⟨k, hk, rfl, HN, HB⟩ := hrel
    by_cases hlt : k < n
    · have hltI : (k : Int) < (n : Int) := by omega
      have h0 : (0 : Int) ≤ (k : Int) := by omega
      have hlr : k < rs.length := by rw [HLN.out]; exact hlt
      obtain ⟨g', off, a0, n0, c0, a1, n1, c1, a2, n2, c2, rfl, q0, q1, q2, hr⟩ := HV.out.get2 HB.out k hlr
      have hadd := addk3 g' off k
      obtain ⟨t, ht⟩ : ∃ t, makesF rs[k] x.data.toList = t := ⟨_, rfl⟩
      have HK := Lib.hid (Known1_any _ _ _ rs[k] x g wr (hr.below HB.out) ((HB.out.cell (p := ⟨g, 0, none⟩) hg).trans HC.out) (Nat.lt_of_lt_of_le hg HB.out.size) t ht)
      have HT := Lib.hid ht
      clear hr ht
      cases t with
      | false =>
        have HN2 : Hid (∀ j (h : j < rs.length), j < k + 1 → makesF rs[j] x.data.toList = false) := fun j h hj => by
          by_cases e : j = k
          · subst e; exact HT.out
          · exact HN.out j h (by omega)
        go_wp2_with (go_at_call 112; refine HK.out.mono ?_; rintro e w1 ⟨rfl, h1⟩; have H1 := Lib.hid h1; clear h1; simp only [])
        exact ⟨⟨k + 1, by omega, by go_num, HN2.out, HB.out.trans (H1.out.mono HB.out.size)⟩, by simp [intOf]; omega⟩
      | true =>
        go_wp2_with (go_at_call 112; refine HK.out.mono ?_; rintro e w1 ⟨rfl, h1⟩; have H1 := Lib.hid h1; clear h1; simp only [])
        go_ret
        refine ⟨⟨_, rfl, ?_⟩, HB.out.trans (H1.out.mono HB.out.size)⟩
        exact ⟨fun _ => List.any_eq_true.2 ⟨_, List.getElem_mem hlr, HT.out⟩, fun _ => h0⟩
    · have hltI : ¬ (k : Int) < (n : Int) := by omega
      go_wp2_with fail
      go_ret
      refine ⟨⟨_, rfl, fun h => absurd h (by decide), fun h => ?_⟩, HB.out⟩
      obtain ⟨r, hr, hp⟩ := List.any_eq_true.1 h
      obtain ⟨j, hj, rfl⟩ := List.mem_iff_getElem.1 hr
      rw [HN.out j hj (by have := HLN.out; omega)] at hp
      cases hp
set_option maxRecDepth 100000 in
theorem ContainsR_any (v : Value) (rs : List Rl) (x : ByteArray) (g : Nat) (w : World) (hv : RsV w v rs) (hn : rs.length ≤ 1000) (hc : w.cell? ⟨g, 0, none⟩ = some (.string x)) (hg : g < w.heap.size) (b : Bool) (hb : knownF rs x.data.toList = b) :
    Calls Tryd.prog 111 #[v, .func (.func 112) #[] #[.pointer (some ⟨g, 0, none⟩)]] w fun e w' => e = .returned (.bool b) ∧ Below w.heap.size w w' := by
  have HI := Lib.hid (IndexR_any v rs x g w hv hn hc hg)
  have HB : Hid (knownF rs x.data.toList = true ↔ b = true) := by rw [Hid, ← hb]
  obtain ⟨a, c, rfl⟩ := hv.len
  clear hv hb hc hg
  go_enter Tryd.func111, Tryd.ntmps111
  go_wp2_with fail
  refine HI.out.mono ?_
  rintro e w' ⟨⟨z, rfl, hz0⟩, h1⟩
  have H1 := Lib.hid h1
  simp only []
  have hz := Iff.trans (show 0 ≤ z ↔ _ from hz0) HB.out
  clear HB hz0 h1
  cases b
  · have hz1 : ¬ (0 : Int) ≤ z := fun e => by simpa using hz.1 e
    clear hz
    go_wp2_with fail
    go_ret
    exact ⟨rfl, H1.out⟩
  · have hz1 : (0 : Int) ≤ z := hz.2 rfl
    clear hz
    go_wp2_with fail
    go_ret
    exact ⟨rfl, H1.out⟩
set_option maxRecDepth 100000 in
set_option maxHeartbeats 1000000 in
theorem Known_any (ms v : Value) (rs : List Rl) (x : ByteArray) (w : World) (hv : RsV w v rs) (hl : rs.length ≤ 1000) (b : Bool) (hb : knownF rs x.data.toList = b) :
    Calls Tryd.prog 87 #[.agg #[ms, v], .string x] w fun e w' => e = .returned (.bool b) ∧ Below w.heap.size w w' := by
  have hB2 : Below w.heap.size w ((w.alloc (.cells #[ms, v] 45)).alloc (.cells #[.string x] 9)) := (below_alloc _ _).trans ((below_alloc _ _).mono (by simp))
  have HC := Lib.hid (ContainsR_any v rs x (w.heap.size + 1) ((w.alloc (.cells #[ms, v] 45)).alloc (.cells #[.string x] 9)) (hv.below hB2) hl (by
    have := heap_alloc_new (w.alloc (.cells #[ms, v] 45)) (.cells #[.string x] 9)
    simp only [World.cell?]
    rw [show w.heap.size + 1 = (w.alloc (.cells #[ms, v] 45)).heap.size by simp, this]; rfl) (by simp) b hb)
  have HB2 := Lib.hid hB2
  obtain ⟨a, c, rfl⟩ := hv.len
  clear hv hb hB2
  go_enter Tryd.func87, Tryd.ntmps87
  go_wp2_with (go_at_call 111; refine HC.out.mono ?_; rintro e w1 ⟨rfl, h1⟩; have H1 := Lib.hid h1; clear h1; simp only [])
  go_ret
  exact ⟨rfl, HB2.out.trans (H1.out.mono HB2.out.size)⟩
end Go.Proofs.YtjagnihkpgbjeaaDoor
