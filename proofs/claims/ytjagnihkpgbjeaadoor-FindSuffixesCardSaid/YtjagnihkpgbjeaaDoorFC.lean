import Derived.Test.YtjagnihkpgbjeaaDoorFB
import Derived.Test.YtjagnihkpgbjeaaDoorVL
import Derived.Laws.AppendOwnNone
import Derived.Test.YtjagnihkpgbjeaaDoorZB
namespace Go.Proofs.YtjagnihkpgbjeaaDoor
open Go.RowKit
set_option linter.unusedVariables false
theorem plain_take (rs : List Rl) (x : Bs) (k : Nat) (h : k < rs.length) (b : Bool) (hb : makesF rs[k] x = b) : plainF (rs.take (k + 1)) x = if b then plainF (rs.take k) x ++ [rs[k]] else plainF (rs.take k) x := by
  unfold plainF
  rw [List.take_succ_eq_append_getElem h, List.filter_append]
  cases b <;> simp [hb]
theorem plain_len (rs : List Rl) (x : Bs) : (plainF rs x).length ≤ rs.length := List.length_filter_le _ _
/-- What plain answers. -/
def PlainP (wb : World) (rs : List Rl) (x : Bs) (w : World) (e : Ending) (w' : World) : Prop := ∃ v, e = .returned v ∧ Ro wb w w' v (plainF rs x)
theorem box3 {w w1 : World} {x y z : Value} (h1 : Below (w.alloc (.cells #[x, y, z] 48)).heap.size (w.alloc (.cells #[x, y, z] 48)) w1) :
    w1.cell? ⟨w.heap.size, 0, none⟩ = some x ∧ w1.cell? ⟨w.heap.size, 1, none⟩ = some y ∧ w1.cell? ⟨w.heap.size, 2, none⟩ = some z ∧ Below w.heap.size w w1 := by
  have hz : w.heap.size < (w.alloc (.cells #[x, y, z] 48)).heap.size := by simp
  refine ⟨(h1.cell (p := ⟨w.heap.size, 0, none⟩) hz).trans ?_, (h1.cell (p := ⟨w.heap.size, 1, none⟩) hz).trans ?_, (h1.cell (p := ⟨w.heap.size, 2, none⟩) hz).trans ?_, (below_alloc w _).trans (h1.mono (by simp))⟩ <;>
    simp only [World.cell?, heap_alloc_new w] <;> rfl
theorem sn_form {w : World} {v : Value} {L : List Bs} (h : SlE w v L) : ∃ a n c, v = .slice a n c := by
  obtain ⟨a, c, rfl⟩ := h.len
  exact ⟨_, _, _, rfl⟩
theorem sl_form {w : World} {v : Value} {L : List Bs} (h : SlS w v L) : ∃ a n c, v = .slice a n c := by
  obtain ⟨a, c, rfl⟩ := h.len
  exact ⟨_, _, _, rfl⟩
/-- A rule of a row, read behind. -/
theorem RsV.get2 {w w' : World} {a : Option Addr} {n c : Nat} {rs : List Rl} (h : RsV w (.slice a n c) rs) (hb : Below w.heap.size w w') (k : Nat) (hk : k < rs.length) :
    ∃ g off a0 n0 c0 a1 n1 c1 a2 n2 c2, a = some ⟨g, off, none⟩ ∧ w'.cell? ⟨g, off + k * 3, none⟩ = some (.slice a0 n0 c0) ∧ w'.cell? ⟨g, off + k * 3 + 1, none⟩ = some (.slice a1 n1 c1) ∧ w'.cell? ⟨g, off + k * 3 + 2, none⟩ = some (.slice a2 n2 c2) ∧ Rl3 w (.slice a0 n0 c0) (.slice a1 n1 c1) (.slice a2 n2 c2) rs[k] := by
  obtain ⟨g, off, x, y, z, e, hg, q0, q1, q2, hr⟩ := h.get k hk
  obtain ⟨a0, n0, c0, rfl⟩ := sl_form hr.t
  obtain ⟨a1, n1, c1, rfl⟩ := sn_form hr.n
  obtain ⟨a2, n2, c2, rfl⟩ := sl_form hr.k
  exact ⟨g, off, _, _, _, _, _, _, _, _, _, e, (hb.cell (p := ⟨g, _, none⟩) hg).trans q0, (hb.cell (p := ⟨g, _, none⟩) hg).trans q1, (hb.cell (p := ⟨g, _, none⟩) hg).trans q2, hr⟩
set_option maxRecDepth 100000 in
set_option maxHeartbeats 4000000 in
theorem plain_any (ms v : Value) (rs : List Rl) (x : ByteArray) (wb w : World) (hv : RsV wb v rs) (hwb : Below wb.heap.size wb w) (hl : rs.length ≤ 1000) :
    Calls Tryd.prog 51 #[.agg #[ms, v], .string x] w (PlainP wb rs x.data.toList w) := by
  obtain ⟨a, c, rfl⟩ := hv.len
  have HV := Lib.hid hv
  have HWB := Lib.hid hwb
  obtain ⟨n, hn⟩ : ∃ n, rs.length = n := ⟨_, rfl⟩
  rw [hn] at hl HV ⊢
  have HN := Lib.hid hn
  obtain ⟨xl, hxl⟩ : ∃ xl, x.data.toList = xl := ⟨_, rfl⟩
  have HX := Lib.hid hxl
  rw [hxl]
  clear hv hn hxl hwb
  go_enter Tryd.func51, Tryd.ntmps51
  go_wp2_with fail
  go_loopw [5, 11] (fun l i wr => ∃ k : Nat, k ≤ n ∧ i = .int .i64 k ∧ Hid (Ro wb w wr l (plainF (rs.take k) xl))) (fun _ i _ => n - (intOf i).toNat)
  case atStart => exact ⟨0, by omega, rfl, ⟨⟨[], rfl, World.ownsRow_nil _ _ _ _, fun i h => absurd h (by simp [plainF])⟩, below_alloc _ _⟩⟩
  case round =>
    obtain ⟨k, hk, rfl, HR⟩ := hrel
    by_cases hlt : k < n
    · have hltI : (k : Int) < (n : Int) := by omega
      have h0 : (0 : Int) ≤ (k : Int) := by omega
      have hlr : k < rs.length := by rw [HN.out]; exact hlt
      obtain ⟨g, off, a0, n0, c0, a1, n1, c1, a2, n2, c2, rfl, q0, q1, q2, hr⟩ := HV.out.get2 (HWB.out.trans (HR.out.old.mono HWB.out.size)) k hlr
      have hadd := addk3 g off k
      obtain ⟨t, ht⟩ : ∃ t, makesF rs[k] xl = t := ⟨_, rfl⟩
      have HT := Lib.hid (plain_take rs xl k hlr t ht)
      have HR3 := Lib.hid hr
      have HM := Lib.hid (fun w => fun (h : Rl3 w (.slice a0 n0 c0) (.slice a1 n1 c1) (.slice a2 n2 c2) rs[k]) => makes_any _ _ _ rs[k] x w h t (by rw [HX.out]; exact ht))
      clear hr ht
      cases t with
      | false =>
        go_wp2_with (go_at_call 77; refine (HM.out _ (HR3.out.below (HWB.out.trans ((HR.out.old.trans ((below_alloc _ _).mono HR.out.old.size)).mono HWB.out.size)))).mono ?_; rintro e w1 ⟨rfl, h1⟩; have H1 := Lib.hid (box3 h1); clear h1; simp only [])
        exact ⟨⟨k + 1, by omega, by go_num, by rw [HT.out]; exact HR.out.below H1.out.2.2.2⟩, by simp [intOf]; omega⟩
      | true =>
        go_wp2_with (first
          | (go_at_call 77; refine (HM.out _ (HR3.out.below (HWB.out.trans ((HR.out.old.trans ((below_alloc _ _).mono HR.out.old.size)).mono HWB.out.size)))).mono ?_; rintro e w1 ⟨rfl, h1⟩; have H1 := Lib.hid (box3 h1); clear h1; obtain ⟨p0, p1, p2, _⟩ := H1.out; simp only [])
          | (at_builtin; obtain ⟨v', w', hrun, hro⟩ := (HR.out.below H1.out.2.2.2).push (Nat.le_trans (plain_len _ _) (by simp; omega)) _ _ _ rs[k] HR3.out; have HRO := Lib.hid hro; have HRUN := Lib.hid hrun; clear hrun hro; refine wpList_run_append _ rfl _ _ 43 43 rfl _ _ rfl rfl HRUN.out ?_))
        exact ⟨⟨k + 1, by omega, by go_num, by rw [HT.out]; exact HRO.out⟩, by simp [intOf]; omega⟩
    · have hltI : ¬ (k : Int) < (n : Int) := by omega
      go_wp2_with fail
      go_ret
      refine ⟨_, rfl, ?_⟩
      have := HR.out
      rw [List.take_of_length_le (by rw [HN.out]; omega)] at this
      exact this
end Go.Proofs.YtjagnihkpgbjeaaDoor

namespace Go.Proofs.YtjagnihkpgbjeaaDoor
open Go.RowKit
set_option linter.unusedVariables false
/-! Special, Known, Has. -/
theorem run_app_strs (w : World) (B : Nat) (v u : Value) (L M : List Bs) (h : w.ownsRow B 9 1 v L.length (L.map encStr)) (hu : SlS w u M) (hl : L.length + M.length ≤ 1000000000) (hB : B ≤ w.heap.size) :
    ∃ v' w', (Builtin.append_ #[29, 29] 29 #[v, u]).run Tryd.prog w = .ok v' w' ∧ w'.ownsRow B 9 1 v' (L ++ M).length ((L ++ M).map encStr) ∧ Below B w w' := by
  obtain ⟨i0, hi, hz0, hz1, hz2⟩ := info_parts info9
  rcases hu with ⟨rfl, rfl⟩ | ⟨g, off, c, rfl, h1, h2, h3, h4⟩
  · exact ⟨v, w, run_append_owned_none w B 29 29 9 i0 1 Tryd.underlying29 hi v _ _ h, by simpa using h, Below.refl _ _⟩
  · obtain ⟨v', w', e1, e2, e3, _⟩ := run_append_own (P := Tryd.prog) w B 29 29 9 i0 _ 1 16 Tryd.underlying29 hi hz0 hz1 hz2 rfl (by decide) v L.length (L.map encStr) h ⟨g, off, none⟩ M.length c (M.map encStr) (by simp)
      (fun j u hj => by
        rw [addk]
        obtain ⟨hj1, hj2⟩ := List.getElem?_eq_some_iff.1 hj
        rw [h4 j (by simpa using hj1)]
        rw [← hj2]; simp) (by
        intro u hu
        obtain ⟨b, _, rfl⟩ := List.mem_map.1 hu
        rfl) (by unfold maxLen; omega) (by omega) hB
    refine ⟨v', w', e1, by rw [List.length_append, List.map_append]; exact e2, (Only.of_grown (S := fun i => v.ownBlock = some i) e3 (fun k hk => hk)).below (fun k hk => (h.lt k hk).1) hB⟩
/-- Texts in a row of the call's own. -/
structure StrO (w0 w : World) (v : Value) (L : List Bs) : Prop where
  own : w.ownsRow w0.heap.size 9 1 v L.length (L.map encStr)
  old : Below w0.heap.size w0 w
theorem StrO.sls {w0 w : World} {v : Value} {L : List Bs} (h : StrO w0 w v L) : SlS w v L := SlS.own h.own
theorem StrO.below {w0 w w' : World} {v : Value} {L : List Bs} (h : StrO w0 w v L) (hb : Below w.heap.size w w') : StrO w0 w' v L := ⟨own_keep3 h.own hb, h.old.trans (hb.mono h.old.size)⟩
theorem StrO.weak {w00 w0 w : World} {v : Value} {L : List Bs} (h : StrO w0 w v L) (hb : Below w00.heap.size w00 w0) : StrO w00 w v L := by
  refine ⟨⟨h.own.1, ?_⟩, hb.trans (h.old.mono hb.size)⟩
  rcases h.own.2 with hn | ⟨g, cap, cur, e, h1, r⟩
  · exact .inl hn
  · exact .inr ⟨g, cap, cur, e, Nat.le_trans hb.size h1, r⟩
theorem StrO.nil (w w' : World) (hb : Below w.heap.size w w') : StrO w w' (.slice none 0 0) [] := ⟨World.ownsRow_nil _ _ _ _, hb⟩
theorem StrO.app {w0 w : World} {v u : Value} {L M : List Bs} (h : StrO w0 w v L) (hu : SlS w u M) (hl : L.length + M.length ≤ 1000000000) :
    ∃ v' w', (Builtin.append_ #[29, 29] 29 #[v, u]).run Tryd.prog w = .ok v' w' ∧ StrO w0 w' v' (L ++ M) := by
  obtain ⟨v', w', e1, e2, e3⟩ := run_app_strs w w0.heap.size v u L M h.own hu hl h.old.size
  exact ⟨v', w', e1, e2, h.old.trans e3⟩
theorem run_app_strs0 (w : World) (B : Nat) (v : Value) (a : Addr) (c : Nat) (L : List Bs) (h : w.ownsRow B 9 1 v L.length (L.map encStr)) (hl : L.length ≤ 1000000000) (hB : B ≤ w.heap.size) :
    ∃ v' w', (Builtin.append_ #[29, 29] 29 #[v, .slice (some a) 0 c]).run Tryd.prog w = .ok v' w' ∧ w'.ownsRow B 9 1 v' L.length (L.map encStr) ∧ Below B w w' := by
  obtain ⟨i0, hi, hz0, hz1, hz2⟩ := info_parts info9
  obtain ⟨v', w', e1, e2, e3, _⟩ := run_append_own (P := Tryd.prog) w B 29 29 9 i0 _ 1 16 Tryd.underlying29 hi hz0 hz1 hz2 rfl (by decide) v L.length (L.map encStr) h a 0 c [] (by simp)
      (fun j u hj => by simp at hj) (by
        intro u hu
        cases hu) (by unfold maxLen; omega) (by omega) hB
  exact ⟨v', w', e1, by simpa using e2, (Only.of_grown (S := fun i => v.ownBlock = some i) e3 (fun k hk => hk)).below (fun k hk => (h.lt k hk).1) hB⟩
theorem StrO.appn {w0 w : World} {v u : Value} {L M : List Bs} (h : StrO w0 w v L) (hu : SlE w u M) (hl : L.length + M.length ≤ 1000000000) :
    ∃ v' w', (Builtin.append_ #[29, 29] 29 #[v, u]).run Tryd.prog w = .ok v' w' ∧ StrO w0 w' v' (L ++ M) := by
  rcases hu with hu | ⟨rfl, a, c, rfl⟩
  · exact h.app hu hl
  · obtain ⟨v', w', e1, e2, e3⟩ := run_app_strs0 w w0.heap.size v a c L h.own (by omega) h.old.size
    exact ⟨v', w', e1, by rw [List.append_nil]; exact ⟨e2, h.old.trans e3⟩⟩
def specialF (rs : List Rl) (x : Bs) : List Bs := (plainF rs x).flatMap (·.ns)
def knownF (rs : List Rl) (x : Bs) : Bool := rs.any fun r => makesF r x
def hasF (rs : List Rl) (nm t : Bs) : Bool := (specialF rs nm).contains t || ((specialF rs nm).isEmpty && knownF rs nm)
/-- How many needs there are at the most. -/
def Few (rs : List Rl) : Prop := ∀ r ∈ rs, r.ns.length ≤ 100000
theorem few_len : ∀ (L : List Rl), Few L → (L.flatMap (·.ns)).length ≤ L.length * 100000
  | [], _ => by simp
  | r :: L, h => by
    have ih := few_len L (fun x hx => h x (List.mem_cons_of_mem _ hx))
    have := h r List.mem_cons_self
    rw [List.flatMap_cons, List.length_append, List.length_cons]
    omega
theorem RsV.few {w : World} {v : Value} {rs : List Rl} (h : RsV w v rs) : Few rs := by
  intro r hr
  rcases h with ⟨_, rfl⟩ | ⟨g, off, c, h1, h2, h3, h4, h5⟩
  · cases hr
  · obtain ⟨i, hi, rfl⟩ := List.mem_iff_getElem.1 hr
    obtain ⟨x, y, z, _, _, _, e⟩ := h5 i hi
    exact e.ln
def SpecialP (rs : List Rl) (x : Bs) (w : World) (e : Ending) (w' : World) : Prop := ∃ v, e = .returned v ∧ StrO w w' v (specialF rs x)
set_option maxRecDepth 100000 in
set_option maxHeartbeats 4000000 in
theorem Special_any (ms v : Value) (rs : List Rl) (x : ByteArray) (w : World) (hv : RsV w v rs) (hl : rs.length ≤ 1000) :
    Calls Tryd.prog 81 #[.agg #[ms, v], .string x] w (SpecialP rs x.data.toList w) := by
  have HP := Lib.hid (plain_any ms v rs x (w.alloc (.cells #[ms, v] 45)) (w.alloc (.cells #[ms, v] 45)) (hv.below (below_alloc _ _)) (Below.refl _ _) hl)
  have HL := Lib.hid (Nat.le_trans (plain_len rs x.data.toList) hl)
  have HFW : Hid (Few (plainF rs x.data.toList)) := fun r hr => hv.few r (List.mem_filter.1 hr).1
  unfold SpecialP specialF
  obtain ⟨P, hP⟩ : ∃ P, plainF rs x.data.toList = P := ⟨_, rfl⟩
  unfold PlainP at HP
  rw [hP] at HP HL HFW ⊢
  obtain ⟨Q, hQ⟩ : ∃ Q, (fun e w' => ∃ v, e = Ending.returned v ∧ StrO w w' v (P.flatMap (·.ns))) = Q := ⟨_, rfl⟩
  rw [hQ]
  have HQ := Lib.hid hQ
  obtain ⟨a, c, rfl⟩ := hv.len
  obtain ⟨mr, hmr⟩ : ∃ mr, rs.length = mr := ⟨_, rfl⟩
  rw [hmr] at HP ⊢
  clear hv hP hQ hl hmr
  go_enter Tryd.func81, Tryd.ntmps81
  go_wp2_with (go_at_call 51; refine HP.out.mono ?_; rintro e w1 ⟨u, rfl, h1⟩; have H1 := Lib.hid h1; have HU := Lib.hid (h1.rsv (Below.refl _ _)); clear h1; obtain ⟨b, d, hu⟩ := HU.out.len; rw [hu] at HU ⊢; clear hu; simp only [])
  obtain ⟨n, hn⟩ : ∃ n, P.length = n := ⟨_, rfl⟩
  rw [hn] at HU HL
  simp only [hn]
  have HN := Lib.hid hn
  have hnl : n ≤ 1000 := HL.out
  clear hn
  go_loopw [5, 12] (fun l i wr => ∃ k : Nat, k ≤ n ∧ i = .int .i64 k ∧ Hid (StrO w1 wr l ((P.take k).flatMap (·.ns)))) (fun _ i _ => n - (intOf i).toNat)
  case atStart => exact ⟨0, by omega, rfl, StrO.nil _ _ (Below.refl _ _)⟩
  case round =>
    obtain ⟨k, hk, rfl, HR⟩ := hrel
    by_cases hlt : k < n
    · have hltI : (k : Int) < (n : Int) := by omega
      have h0 : (0 : Int) ≤ (k : Int) := by omega
      have hlr : k < P.length := by rw [HN.out]; exact hlt
      obtain ⟨g, off, a0, n0, c0, a1, n1, c1, a2, n2, c2, rfl, q0, q1, q2, hr⟩ := HU.out.get2 HR.out.old k hlr
      have hadd := addk3 g off k
      have HR3 := Lib.hid hr
      have HT : Hid ((P.take (k + 1)).flatMap (·.ns) = (P.take k).flatMap (·.ns) ++ P[k].ns) := by rw [Hid, List.take_succ_eq_append_getElem hlr, List.flatMap_append]; simp
      have HLL : Hid (((P.take k).flatMap (·.ns)).length + P[k].ns.length ≤ 1000000000) := by
        have e1 := few_len (P.take k) (fun r hr => HFW.out r (List.mem_of_mem_take hr))
        have e2 := HFW.out P[k] (List.getElem_mem hlr)
        have e3 : (P.take k).length ≤ 1000 := by simp; omega
        show _ ≤ _
        omega
      clear hr
      go_wp2_with (at_builtin; obtain ⟨v', w', hrun, hro⟩ := (HR.out.below (below_alloc _ (.cells #[.slice a0 n0 c0, .slice a1 n1 c1, .slice a2 n2 c2] 48))).appn (HR3.out.n.below (HR.out.old.trans ((below_alloc _ _).mono HR.out.old.size))) HLL.out; have HRO := Lib.hid hro; have HRUN := Lib.hid hrun; clear hrun hro; refine wpList_run_append _ rfl _ _ 29 29 rfl _ _ rfl rfl HRUN.out ?_)
      exact ⟨⟨k + 1, by omega, by go_num, by rw [HT.out]; exact HRO.out⟩, by simp [intOf]; omega⟩
    · have hltI : ¬ (k : Int) < (n : Int) := by omega
      go_wp2_with fail
      rw [← HQ.out]
      refine ⟨_, rfl, ?_⟩
      have := HR.out
      rw [List.take_of_length_le (by rw [HN.out]; omega)] at this
      exact this.weak ((below_alloc _ _).trans (H1.out.old.mono (by simp)))
set_option maxRecDepth 100000 in
set_option maxHeartbeats 1000000 in
theorem Known1_any (a b c : Value) (r : Rl) (x : ByteArray) (g : Nat) (w : World) (h : Rl3 w a b c r) (hc : w.cell? ⟨g, 0, none⟩ = some (.string x)) (hg : g < w.heap.size) (t : Bool) (ht : makesF r x.data.toList = t) :
    Calls Tryd.prog 112 #[.agg #[a, b, c], .pointer (some ⟨g, 0, none⟩)] w fun e w' => e = .returned (.bool t) ∧ Below w.heap.size w w' := by
  have HM := Lib.hid (makes_any a b c r x (w.alloc (.cells #[a, b, c] 48)) (h.below (below_alloc _ _)) t ht)
  have hne : g ≠ w.heap.size := by omega
  clear h ht
  go_enter Tryd.func112, Tryd.ntmps112
  go_wp2_with (go_at_call 77; refine HM.out.mono ?_; rintro e w1 ⟨rfl, h1⟩; have H1 := Lib.hid h1; clear h1; simp only [])
  go_ret
  exact ⟨rfl, (below_alloc _ _).trans (H1.out.mono (by simp))⟩
def IdxR (rs : List Rl) (x : Bs) (w : World) (e : Ending) (w' : World) : Prop := (∃ z : Int, e = .returned (.int .i64 z) ∧ IdxP z (knownF rs x = true)) ∧ Below w.heap.size w w'
set_option maxRecDepth 100000 in
set_option maxHeartbeats 4000000 in
theorem IndexR_any (v : Value) (rs : List Rl) (x : ByteArray) (g : Nat) (w : World) (hv : RsV w v rs) (hn : rs.length ≤ 1000) (hc : w.cell? ⟨g, 0, none⟩ = some (.string x)) (hg : g < w.heap.size) :
    Calls Tryd.prog 130 #[v, .func (.func 112) #[] #[.pointer (some ⟨g, 0, none⟩)]] w (IdxR rs x.data.toList w) := by
  obtain ⟨a, c, rfl⟩ := hv.len
  have HV := Lib.hid hv
  have HC := Lib.hid hc
  obtain ⟨n, hln⟩ : ∃ n, rs.length = n := ⟨_, rfl⟩
  rw [hln] at hn HV ⊢
  have HLN := Lib.hid hln
  clear hv hln hc
  go_enter Tryd.func130, Tryd.ntmps130
  go_wp2_with fail
  go_loopw [8] (fun i wr => ∃ k : Nat, k ≤ n ∧ i = .int .i64 k ∧ Hid (∀ j (h : j < rs.length), j < k → makesF rs[j] x.data.toList = false) ∧ Hid (Below w.heap.size w wr)) (fun i _ => n - (intOf i).toNat)
  case atStart => exact ⟨0, by omega, rfl, fun j _ hj => by omega, Below.refl _ _⟩
  case round =>
    obtain ⟨k, hk, rfl, HN, HB⟩ := hrel
    by_cases hlt : k < n
    · have hltI : (k : Int) < (n : Int) := by omega
      have h0 : (0 : Int) ≤ (k : Int) := by omega
      have hlr : k < rs.length := by rw [HLN.out]; exact hlt
      obtain ⟨g', off, a0, n0, c0, a1, n1, c1, a2, n2, c2, rfl, q0, q1, q2, hr⟩ := HV.out.get2 HB.out k hlr
      have hadd := addk3 g' off k
      obtain ⟨t, ht⟩ : ∃ t, makesF rs[k] x.data.toList = t := ⟨_, rfl⟩
      have HK := Lib.hid (Known1_any _ _ _ rs[k] x g wr (hr.below HB.out) ((HB.out.cell (p := ⟨g, 0, none⟩) hg).trans HC.out) (Nat.lt_of_lt_of_le hg HB.out.size) t ht)
      have HT := Lib.hid ht
      clear hr ht
      cases t with
      | false =>
        have HN2 : Hid (∀ j (h : j < rs.length), j < k + 1 → makesF rs[j] x.data.toList = false) := fun j h hj => by
          by_cases e : j = k
          · subst e; exact HT.out
          · exact HN.out j h (by omega)
        go_wp2_with (go_at_call 112; refine HK.out.mono ?_; rintro e w1 ⟨rfl, h1⟩; have H1 := Lib.hid h1; clear h1; simp only [])
        exact ⟨⟨k + 1, by omega, by go_num, HN2.out, HB.out.trans (H1.out.mono HB.out.size)⟩, by simp [intOf]; omega⟩
      | true =>
        go_wp2_with (go_at_call 112; refine HK.out.mono ?_; rintro e w1 ⟨rfl, h1⟩; have H1 := Lib.hid h1; clear h1; simp only [])
        go_ret
        refine ⟨⟨_, rfl, ?_⟩, HB.out.trans (H1.out.mono HB.out.size)⟩
        exact ⟨fun _ => List.any_eq_true.2 ⟨_, List.getElem_mem hlr, HT.out⟩, fun _ => h0⟩
    · have hltI : ¬ (k : Int) < (n : Int) := by omega
      go_wp2_with fail
      go_ret
      refine ⟨⟨_, rfl, fun h => absurd h (by decide), fun h => ?_⟩, HB.out⟩
      obtain ⟨r, hr, hp⟩ := List.any_eq_true.1 h
      obtain ⟨j, hj, rfl⟩ := List.mem_iff_getElem.1 hr
      rw [HN.out j hj (by have := HLN.out; omega)] at hp
      cases hp
set_option maxRecDepth 100000 in
theorem ContainsR_any (v : Value) (rs : List Rl) (x : ByteArray) (g : Nat) (w : World) (hv : RsV w v rs) (hn : rs.length ≤ 1000) (hc : w.cell? ⟨g, 0, none⟩ = some (.string x)) (hg : g < w.heap.size) (b : Bool) (hb : knownF rs x.data.toList = b) :
    Calls Tryd.prog 111 #[v, .func (.func 112) #[] #[.pointer (some ⟨g, 0, none⟩)]] w fun e w' => e = .returned (.bool b) ∧ Below w.heap.size w w' := by
  have HI := Lib.hid (IndexR_any v rs x g w hv hn hc hg)
  have HB : Hid (knownF rs x.data.toList = true ↔ b = true) := by rw [Hid, ← hb]
  obtain ⟨a, c, rfl⟩ := hv.len
  clear hv hb hc hg
  go_enter Tryd.func111, Tryd.ntmps111
  go_wp2_with fail
  refine HI.out.mono ?_
  rintro e w' ⟨⟨z, rfl, hz0⟩, h1⟩
  have H1 := Lib.hid h1
  simp only []
  have hz := Iff.trans (show 0 ≤ z ↔ _ from hz0) HB.out
  clear HB hz0 h1
  cases b
  · have hz1 : ¬ (0 : Int) ≤ z := fun e => by simpa using hz.1 e
    clear hz
    go_wp2_with fail
    go_ret
    exact ⟨rfl, H1.out⟩
  · have hz1 : (0 : Int) ≤ z := hz.2 rfl
    clear hz
    go_wp2_with fail
    go_ret
    exact ⟨rfl, H1.out⟩
set_option maxRecDepth 100000 in
set_option maxHeartbeats 1000000 in
theorem Known_any (ms v : Value) (rs : List Rl) (x : ByteArray) (w : World) (hv : RsV w v rs) (hl : rs.length ≤ 1000) (b : Bool) (hb : knownF rs x.data.toList = b) :
    Calls Tryd.prog 87 #[.agg #[ms, v], .string x] w fun e w' => e = .returned (.bool b) ∧ Below w.heap.size w w' := by
  have hB2 : Below w.heap.size w ((w.alloc (.cells #[ms, v] 45)).alloc (.cells #[.string x] 9)) := (below_alloc _ _).trans ((below_alloc _ _).mono (by simp))
  have HC := Lib.hid (ContainsR_any v rs x (w.heap.size + 1) ((w.alloc (.cells #[ms, v] 45)).alloc (.cells #[.string x] 9)) (hv.below hB2) hl (by
    have := heap_alloc_new (w.alloc (.cells #[ms, v] 45)) (.cells #[.string x] 9)
    simp only [World.cell?]
    rw [show w.heap.size + 1 = (w.alloc (.cells #[ms, v] 45)).heap.size by simp, this]; rfl) (by simp) b hb)
  have HB2 := Lib.hid hB2
  obtain ⟨a, c, rfl⟩ := hv.len
  clear hv hb hB2
  go_enter Tryd.func87, Tryd.ntmps87
  go_wp2_with (go_at_call 111; refine HC.out.mono ?_; rintro e w1 ⟨rfl, h1⟩; have H1 := Lib.hid h1; clear h1; simp only [])
  go_ret
  exact ⟨rfl, HB2.out.trans (H1.out.mono HB2.out.size)⟩
end Go.Proofs.YtjagnihkpgbjeaaDoor

namespace Go.Proofs.YtjagnihkpgbjeaaDoor
open Go.RowKit Go.Maps Go.ChangeMaps
set_option linter.unusedVariables false
theorem Fs.below {w w' : World} {B N f : Nat} {c : Cn} {T : Tr} {F : Nat → Prop} (h : Fs w B N f c T F) (hb : Below w.heap.size w w') : Fs w' B N f c T F := by
  obtain ⟨A, M, V, h1, h2, h3⟩ := h
  exact ⟨A, M, V, h1.only (X := fun _ => False) (Only.of_below hb) (fun _ h => h.elim), h2, h3⟩
theorem MutP.after {w w1 w' : World} {B N f : Nat} {F : Nat → Prop} {er : Int} {T : Tr} {c : Cn} {e : Ending} (hb : Below w.heap.size w w1) (h : MutP w1 B N f F er T c e w') : MutP w B N f F er T c e w' := by
  obtain ⟨h1, ⟨A, M, V, h2, h3, h4⟩, h5⟩ := h
  exact ⟨h1, ⟨A, M, V, h2, fun j hj => (h3 j hj).imp id (fun h => Nat.le_trans hb.size h), h4⟩, (Only.of_below (S := F) hb).trans h5 (fun _ h => h) (fun _ _ h => h)⟩
section
variable {w : World} {B N f : Nat} {c : Cn} {T : Tr} {F : Nat → Prop} {p : ByteArray}
set_option maxRecDepth 100000 in
set_option maxHeartbeats 4000000 in
theorem Touch_bad (hF : Fs w B N f c T F) (hp : PathOk p) (hE : findE T p ≠ 0) : Calls Tryd.prog 21 #[.pointer (some ⟨f, 0, none⟩), .string p] w (MutP w B N f F (findE T p) T c) := by
  obtain ⟨A, M, V, hT, hft, r0, h0, hr0⟩ := hF
  have HF : Hid (Fs w B N f c T F) := ⟨A, M, V, hT, hft, r0, h0, hr0⟩
  have HB := Lib.hid (find_bad (w := w) hT h0 hr0 hp hE)
  obtain ⟨er, her⟩ : ∃ er, findE T p = er := ⟨_, rfl⟩
  rw [her] at HB hE ⊢
  obtain ⟨Q, hQ⟩ : ∃ Q, MutP w B N f F er T c = Q := ⟨_, rfl⟩
  rw [hQ]
  have HQ := Lib.hid hQ
  have hne : (er != 0) = true := by simpa using hE
  clear hT hft h0 hr0 hQ hp hE her
  go_enter Tryd.func21, Tryd.ntmps21
  go_wp2_with (go_at_call 38; refine HB.out.mono ?_; rintro e w1 ⟨rfl, h1⟩; have H1 := Lib.hid h1; clear h1; simp only [spot0, spotV])
  rw [← HQ.out]
  exact MutP.same HF.out (H1.out.alloc H1.out.size _)
set_option maxRecDepth 100000 in
set_option maxHeartbeats 4000000 in
theorem Touch_root (hF : Fs w B N f c T F) (hp : PathOk p) (hE : findE T p = 0) (hL : findL p = []) : Calls Tryd.prog 21 #[.pointer (some ⟨f, 0, none⟩), .string p] w (MutP w B N f F 0 T c) := by
  obtain ⟨A, M, V, hT, hft, r0, h0, hr0⟩ := hF
  have HF : Hid (Fs w B N f c T F) := ⟨A, M, V, hT, hft, r0, h0, hr0⟩
  have HB := Lib.hid (find_root (w := w) hT h0 hr0 hp hE hL)
  obtain ⟨Q, hQ⟩ : ∃ Q, MutP w B N f F 0 T c = Q := ⟨_, rfl⟩
  rw [hQ]
  have HQ := Lib.hid hQ
  clear hT hft h0 hr0 hQ hp hE
  go_enter Tryd.func21, Tryd.ntmps21
  go_wp2_with (go_at_call 38; refine HB.out.mono ?_; rintro e w1 ⟨rfl, h1⟩; have H1 := Lib.hid h1; clear h1; simp only [spot0, spotV])
  rw [← HQ.out]
  exact MutP.same HF.out (H1.out.alloc H1.out.size _)
set_option maxRecDepth 100000 in
set_option maxHeartbeats 4000000 in
theorem Touch_old {n : Nd} (hF : Fs w B N f c T F) (hp : PathOk p) (hc : c.Ok) (hE : findE T p = 0) (hL : findL p ≠ []) (hn : T (findL p) = some n) :
    Calls Tryd.prog 21 #[.pointer (some ⟨f, 0, none⟩), .string p] w (MutP w B N f F 0 (setF T (findL p) (some { n with time := c.clock + 1 })) { c with clock := c.clock + 1 }) := by
  obtain ⟨A, M, V, hT, hft, r0, h0, hr0⟩ := hF
  obtain ⟨Q, hQ⟩ : ∃ Q, MutP w B N f F 0 (setF T (findL p) (some { n with time := c.clock + 1 })) { c with clock := c.clock + 1 } = Q := ⟨_, rfl⟩
  rw [hQ]
  have HT := Lib.hid hT
  have H0 := Lib.hid h0
  have HFT := Lib.hid hft
  rcases List.eq_nil_or_concat (findL p) with hL2 | ⟨d, k, hL2⟩
  · exact absurd hL2 hL
  have hL2 : findL p = d ++ [k] := by rw [hL2]; simp
  rw [hL2] at hQ hn
  have HQ := Lib.hid hQ
  have HN := Lib.hid hn
  have HB := Lib.hid (find_good (w := w) hT h0 hr0 hp hE hL2)
  obtain ⟨lg, hlg⟩ : ∃ lg, (d ++ [k]).length = lg := ⟨_, rfl⟩
  rw [hlg] at HB
  have hk : kidsOf T A d k = some (A (d ++ [k])) := by unfold kidsOf; rw [hn]; rfl
  rw [hk] at HB
  have HST := Lib.hid (fun (w : World) (hT : TreeAt w B N f 71 c.tl T A M V) => stamp_any hT h0 hn (by simp) hc.clock)
  obtain ⟨na, hna⟩ : ∃ na, A (d ++ [k]) = na := ⟨_, rfl⟩
  rw [hna] at HB HST
  have HNA := Lib.hid hna
  clear hT hft h0 hQ hp hE hL hL2 hn hk hna hc
  go_enter Tryd.func21, Tryd.ntmps21
  go_wp2_with (first
    | (go_at_call 38; refine HB.out.mono ?_; rintro e w1 ⟨dn, g, cc, hdn, hdf, rfl, hrow, h1⟩; have H1 := Lib.hid h1; clear h1 hrow hdn hdf; simp only [spotV, ptrV])
    | (go_at_call 41; refine (HST.out _ (HT.out.only (X := fun _ => False) (Only.of_below (H1.out.alloc H1.out.size _)) (fun _ h => h.elim))).mono ?_; rintro e w2 ⟨rfl, z1, z2⟩; have Z1 := Lib.hid z1; have Z2 := Lib.hid z2; clear z1 z2; simp only []))
  rw [← HQ.out]
  refine ⟨rfl, ⟨A, M, V, Z1.out.mono (Nat.le_succ N), fun j hj => .inl (HFT.out j (foot_setT (by rw [HN.out]; rfl) hj)), r0, ?_, hr0⟩, ?_⟩
  · rw [setF_other _ _ (by simp)]; exact H0.out
  · refine (Only.of_below (S := F) (H1.out.alloc H1.out.size _)).trans Z2.out (fun _ h => h) (fun j _ e => ?_)
    rcases e with e | e
    · rw [e]; exact HFT.out f ⟨[], r0, H0.out, .inl HT.out.a0⟩
    · rw [e]; exact HFT.out na ⟨d ++ [k], n, HN.out, .inl HNA.out⟩
set_option maxRecDepth 100000 in
set_option maxHeartbeats 4000000 in
theorem Touch_new (hF : Fs w B N f c T F) (hp : PathOk p) (hc : c.Ok) (hN : N < maxLen) (hB : B ≤ w.heap.size) (hE : findE T p = 0) (hn : T (findL p) = none) (hfull : ¬ c.nodes ≤ c.count) (hroom : c.size ≤ c.bytes) :
    Calls Tryd.prog 21 #[.pointer (some ⟨f, 0, none⟩), .string p] w (MutP w B N f F 0 (setF T (findL p) (some ⟨true, [], c.clock + 1⟩)) { c with count := c.count + 1, size := c.size + 0, clock := c.clock + 1 }) := by
  have HF := Lib.hid hF
  have HW := Lib.hid (fun (w' : World) (hw : B ≤ w'.heap.size) (hF : Fs w' B N f c T F) => Write_new w' p true hF hp hc hN hw hE hn [] none 0 ⟨none, 0, rfl, fun i h => absurd h (by simp)⟩ (fun a h => by cases h) (by simp) hfull (by simp; omega))
  simp only [List.length_nil] at HW
  obtain ⟨A, M, V, hT, hft, r0, h0, hr0⟩ := hF
  obtain ⟨Q, hQ⟩ : ∃ Q, MutP w B N f F 0 (setF T (findL p) (some ⟨true, [], c.clock + 1⟩)) { c with count := c.count + 1, size := c.size + 0, clock := c.clock + 1 } = Q := ⟨_, rfl⟩
  rw [hQ]
  have HQ := Lib.hid hQ
  rcases List.eq_nil_or_concat (findL p) with hL2 | ⟨d, k, hL2⟩
  · rw [hL2, h0] at hn; cases hn
  have hL2 : findL p = d ++ [k] := by rw [hL2]; simp
  have HB := Lib.hid (find_good (w := w) hT h0 hr0 hp hE hL2)
  obtain ⟨lg, hlg⟩ : ∃ lg, (d ++ [k]).length = lg := ⟨_, rfl⟩
  rw [hlg] at HB
  rw [hL2] at hn
  have hk : kidsOf T A d k = none := by unfold kidsOf; rw [hn]; rfl
  rw [hk] at HB
  clear hT hft h0 hQ hp hE hL2 hn hk hc
  go_enter Tryd.func21, Tryd.ntmps21
  go_wp2_with (first
    | (go_at_call 38; refine HB.out.mono ?_; rintro e w1 ⟨dn, g, cc, hdn, hdf, rfl, hrow, h1⟩; have H1 := Lib.hid h1; clear h1 hrow hdn hdf; simp only [spotV, ptrV])
    | (go_at_call 15; refine (HW.out _ (Nat.le_trans hB (H1.out.alloc H1.out.size _).size) (HF.out.below (H1.out.alloc H1.out.size _))).mono ?_; rintro e w2 hm; obtain ⟨rfl, _⟩ := id hm; have HM := Lib.hid hm; clear hm; simp only []))
  rw [← HQ.out]
  exact MutP.after (H1.out.alloc H1.out.size _) HM.out
end
end Go.Proofs.YtjagnihkpgbjeaaDoor

namespace Go.Proofs.YtjagnihkpgbjeaaDoor
open Go.RowKit Go.Maps Go.ChangeMaps
set_option linter.unusedVariables false
/-- What present says: the place of a node, or why there is none. -/
def presE (T : Tr) (p : ByteArray) : Int := if findE T p ≠ 0 then findE T p else if (T (findL p)).isSome then 0 else 6
def presD (A : Pth → Nat) (L : Pth) : Value := match L.reverse with
  | [] => .pointer none
  | _ :: r => .pointer (some ⟨A r.reverse, 0, none⟩)
section
variable {f : Nat} {p : ByteArray} {w : World} {B N : Nat} {tl : List Value} {T : Tr} {A : Pth → Nat} {M : Pth → Option Nat} {V : Pth → Value} {r0 : Nd}
theorem spot_box {w w1 : World} {v0 v1 v2 v3 u0 u1 u2 u3 : Value} (h1 : Below (w.alloc (.cells #[v0, v1, v2, v3] 74)).heap.size (w.alloc (.cells #[v0, v1, v2, v3] 74)) w1) : Below w.heap.size w (w1.alloc (.cells #[u0, u1, u2, u3] 74)) ∧ w1.heap[w.heap.size]? = some (.cells [v0, v1, v2, v3].toArray 74 (0, 0)) ∧ w.heap.size < w1.heap.size := by
  have s1 := h1.size
  have hz : (w.alloc (.cells #[v0, v1, v2, v3] 74)).heap.size = w.heap.size + 1 := by simp
  rw [hz] at s1
  refine ⟨(((Below.refl _ w).alloc (Nat.le_refl _) _).trans (h1.mono (by omega))).alloc (by omega) _, ?_, by omega⟩
  rw [h1.block _ (by omega)]
  exact heap_alloc_new w _
theorem alloc_tree (hT : TreeAt w B N f 71 tl T A M V) (o : Obj) : TreeAt (w.alloc o) B N f 71 tl T A M V := hT.only (X := fun _ => False) (Only.of_below ((Below.refl _ _).alloc (Nat.le_refl _) o)) (fun _ h => h.elim)
def box0 : Obj := .cells #[.pointer none, .string ⟨#[]⟩, .pointer none, .slice none 0 0] 74
theorem pres_box {w w1 : World} (h1 : Below (w.alloc box0).heap.size (w.alloc box0) w1) : Below w.heap.size w w1 ∧ w1.heap[w.heap.size]? = some (.cells [.pointer none, .string ⟨#[]⟩, .pointer none, .slice none 0 0].toArray 74 (0, 0)) ∧ w.heap.size < w1.heap.size := by
  have s1 := h1.size
  have hz : (w.alloc box0).heap.size = w.heap.size + 1 := by simp
  rw [hz] at s1
  refine ⟨((Below.refl _ w).alloc (Nat.le_refl _) _).trans (h1.mono (by omega)), ?_, by omega⟩
  rw [h1.block _ (by omega)]
  exact heap_alloc_new w _
theorem fin4 {w1 : World} {a : Nat} {v0 v1 v2 v3 : Value} (hb : w1.heap[a]? = some (.cells [v0, v1, v2, v3].toArray 74 (0, 0))) (u0 u1 u2 u3 : Value) (o : Obj) :
    (((((w1.setCell ⟨a, 0, none⟩ u0).setCell ⟨a, 1, none⟩ u1).setCell ⟨a, 2, none⟩ u2).setCell ⟨a, 3, none⟩ u3).alloc o).cell? ⟨a, 0, none⟩ = some u0 ∧
    (((((w1.setCell ⟨a, 0, none⟩ u0).setCell ⟨a, 1, none⟩ u1).setCell ⟨a, 2, none⟩ u2).setCell ⟨a, 3, none⟩ u3).alloc o).cell? ⟨a, 1, none⟩ = some u1 ∧
    (((((w1.setCell ⟨a, 0, none⟩ u0).setCell ⟨a, 1, none⟩ u1).setCell ⟨a, 2, none⟩ u2).setCell ⟨a, 3, none⟩ u3).alloc o).cell? ⟨a, 2, none⟩ = some u2 ∧
    (((((w1.setCell ⟨a, 0, none⟩ u0).setCell ⟨a, 1, none⟩ u1).setCell ⟨a, 2, none⟩ u2).setCell ⟨a, 3, none⟩ u3).alloc o).cell? ⟨a, 3, none⟩ = some u3 := by
  have hb4 := set_of (set_of (set_of (set_of hb 0 u0) 1 u1) 2 u2) 3 u3
  have hlt := blk_lt hb4
  have h5 := ((MapKept.heap_alloc ((((w1.setCell ⟨a, 0, none⟩ u0).setCell ⟨a, 1, none⟩ u1).setCell ⟨a, 2, none⟩ u2).setCell ⟨a, 3, none⟩ u3) o).2 a hlt).trans hb4
  exact ⟨cell_of h5 0, cell_of h5 1, cell_of h5 2, cell_of h5 3⟩
set_option maxRecDepth 100000 in
set_option maxHeartbeats 4000000 in
theorem present_bad1 (hT : TreeAt w B N f 71 tl T A M V) (h0 : T [] = some r0) (hr0 : r0.file = false) (hp : PathOk p) (hE : findE T p ≠ 0) :
    Calls Tryd.prog 42 #[.pointer (some ⟨f, 0, none⟩), .string p] w fun e w' => e = .returned (.tuple #[spot0, .int .i64 (findE T p)]) ∧ Below w.heap.size w w' := by
  have HB := Lib.hid (find_bad (alloc_tree hT box0) h0 hr0 hp hE)
  obtain ⟨er, her⟩ : ∃ er, findE T p = er := ⟨_, rfl⟩
  rw [her] at HB hE ⊢
  have hne : (er == 0) = false := by simpa using hE
  clear hT h0 hr0 hp hE her
  simp only [box0] at HB
  go_enter Tryd.func42, Tryd.ntmps42
  go_wp2_with (go_at_call 38; refine HB.out.mono ?_; rintro e w1 ⟨rfl, h1⟩; have H1 := Lib.hid (pres_box h1); obtain ⟨q0, q1, q2, q3, u0, u1, u2, u3⟩ := box_facts H1.out.2.1; have hlw := H1.out.2.2; have hnw := Nat.ne_of_lt hlw; clear h1; simp only [spot0, spotV])
  refine bodyPost_ret (v := .tuple #[spot0, .int .i64 er]) ?_ rfl ?_
  · have k0 := fun u0 u1 u2 u3 o => (fin4 H1.out.2.1 u0 u1 u2 u3 o).1
    have k1 := fun u0 u1 u2 u3 o => (fin4 H1.out.2.1 u0 u1 u2 u3 o).2.1
    have k2 := fun u0 u1 u2 u3 o => (fin4 H1.out.2.1 u0 u1 u2 u3 o).2.2.1
    have k3 := fun u0 u1 u2 u3 o => (fin4 H1.out.2.1 u0 u1 u2 u3 o).2.2.2
    simp [results, Tryd.results42, go_sem, k0, k1, k2, k3]
    try rfl
  · exact ⟨rfl, (below4 H1.out.1 _ _ _ _).alloc (by simp; omega) _⟩
set_option maxRecDepth 100000 in
set_option maxHeartbeats 4000000 in
theorem present_root (hT : TreeAt w B N f 71 tl T A M V) (h0 : T [] = some r0) (hr0 : r0.file = false) (hp : PathOk p) (hE : findE T p = 0) (hL : findL p = []) :
    Calls Tryd.prog 42 #[.pointer (some ⟨f, 0, none⟩), .string p] w fun e w' => e = .returned (.tuple #[spotV (.pointer none) ⟨#[]⟩ (.pointer (some ⟨f, 0, none⟩)) (.slice none 0 0), .int .i64 0]) ∧ Below w.heap.size w w' := by
  have HB := Lib.hid (find_root (alloc_tree hT box0) h0 hr0 hp hE hL)
  clear hT h0 hr0 hp hE
  simp only [box0] at HB
  go_enter Tryd.func42, Tryd.ntmps42
  go_wp2_with (go_at_call 38; refine HB.out.mono ?_; rintro e w1 ⟨rfl, h1⟩; have H1 := Lib.hid (pres_box h1); obtain ⟨q0, q1, q2, q3, u0, u1, u2, u3⟩ := box_facts H1.out.2.1; have hlw := H1.out.2.2; have hnw := Nat.ne_of_lt hlw; clear h1; simp only [spot0, spotV, ptrV])
  refine bodyPost_ret (v := .tuple #[spotV (.pointer none) ⟨#[]⟩ (.pointer (some ⟨f, 0, none⟩)) (.slice none 0 0), .int .i64 0]) ?_ rfl ?_
  · have k0 := fun u0 u1 u2 u3 o => (fin4 H1.out.2.1 u0 u1 u2 u3 o).1
    have k1 := fun u0 u1 u2 u3 o => (fin4 H1.out.2.1 u0 u1 u2 u3 o).2.1
    have k2 := fun u0 u1 u2 u3 o => (fin4 H1.out.2.1 u0 u1 u2 u3 o).2.2.1
    have k3 := fun u0 u1 u2 u3 o => (fin4 H1.out.2.1 u0 u1 u2 u3 o).2.2.2
    simp [results, Tryd.results42, go_sem, k0, k1, k2, k3]
    try rfl
  · exact ⟨rfl, (below4 H1.out.1 _ _ _ _).alloc (by simp; omega) _⟩
set_option maxRecDepth 100000 in
set_option maxHeartbeats 4000000 in
theorem present_none (hT : TreeAt w B N f 71 tl T A M V) (h0 : T [] = some r0) (hr0 : r0.file = false) (hp : PathOk p) (hE : findE T p = 0) (hn : T (findL p) = none) :
    Calls Tryd.prog 42 #[.pointer (some ⟨f, 0, none⟩), .string p] w fun e w' => (∃ a b c d l, e = .returned (.tuple #[.agg #[.pointer a, .string b, .pointer none, .slice c l d], .int .i64 6])) ∧ Below w.heap.size w w' := by
  rcases List.eq_nil_or_concat (findL p) with hL2 | ⟨d, k, hL2⟩
  · rw [hL2, h0] at hn; cases hn
  have hL2 : findL p = d ++ [k] := by rw [hL2]; simp
  have HB := Lib.hid (find_good (alloc_tree hT box0) h0 hr0 hp hE hL2)
  rw [hL2] at hn
  have hk : kidsOf T A d k = none := by unfold kidsOf; rw [hn]; rfl
  rw [hk] at HB
  obtain ⟨lg, hlg⟩ : ∃ lg, (d ++ [k]).length = lg := ⟨_, rfl⟩
  rw [hlg] at HB
  clear hT h0 hr0 hp hE hn hk
  simp only [box0] at HB
  go_enter Tryd.func42, Tryd.ntmps42
  go_wp2_with (go_at_call 38; refine HB.out.mono ?_; rintro e w1 ⟨dn, g, cc, hdn, hdf, rfl, hrow, h1⟩; have H1 := Lib.hid (pres_box h1); obtain ⟨q0, q1, q2, q3, u0, u1, u2, u3⟩ := box_facts H1.out.2.1; have hlw := H1.out.2.2; have hnw := Nat.ne_of_lt hlw; have HDN := Lib.hid hdn; have HDF := Lib.hid hdf; clear h1 hrow hdn hdf; simp only [spotV, ptrV])
  refine bodyPost_ret (v := .tuple #[.agg #[.pointer (some ⟨A d, 0, none⟩), .string ⟨k.toArray⟩, .pointer none, .slice (some ⟨g, 0, none⟩) lg cc], .int .i64 6]) ?_ rfl ?_
  · have k0 := fun u0 u1 u2 u3 o => (fin4 H1.out.2.1 u0 u1 u2 u3 o).1
    have k1 := fun u0 u1 u2 u3 o => (fin4 H1.out.2.1 u0 u1 u2 u3 o).2.1
    have k2 := fun u0 u1 u2 u3 o => (fin4 H1.out.2.1 u0 u1 u2 u3 o).2.2.1
    have k3 := fun u0 u1 u2 u3 o => (fin4 H1.out.2.1 u0 u1 u2 u3 o).2.2.2
    simp [results, Tryd.results42, go_sem, k0, k1, k2, k3]
    try rfl
  · exact ⟨⟨_, _, _, _, _, rfl⟩, (below4 H1.out.1 _ _ _ _).alloc (by simp; omega) _⟩
set_option maxRecDepth 100000 in
set_option maxHeartbeats 4000000 in
theorem present_good {d : Pth} {k : Bz} {n : Nd} (hT : TreeAt w B N f 71 tl T A M V) (h0 : T [] = some r0) (hr0 : r0.file = false) (hp : PathOk p) (hE : findE T p = 0) (hL : findL p = d ++ [k]) (hn : T (d ++ [k]) = some n) :
    Calls Tryd.prog 42 #[.pointer (some ⟨f, 0, none⟩), .string p] w fun e w' => (∃ g c l, e = .returned (.tuple #[spotV (.pointer (some ⟨A d, 0, none⟩)) ⟨k.toArray⟩ (.pointer (some ⟨A (d ++ [k]), 0, none⟩)) (.slice g l c), .int .i64 0])) ∧ Below w.heap.size w w' := by
  have HB := Lib.hid (find_good (alloc_tree hT box0) h0 hr0 hp hE hL)
  have hk : kidsOf T A d k = some (A (d ++ [k])) := by unfold kidsOf; rw [hn]; rfl
  rw [hk] at HB
  obtain ⟨lg, hlg⟩ : ∃ lg, (d ++ [k]).length = lg := ⟨_, rfl⟩
  rw [hlg] at HB
  obtain ⟨na, hna⟩ : ∃ na, A (d ++ [k]) = na := ⟨_, rfl⟩
  rw [hna] at HB ⊢
  clear hT h0 hr0 hp hE hn hk hna
  simp only [box0] at HB
  go_enter Tryd.func42, Tryd.ntmps42
  go_wp2_with (go_at_call 38; refine HB.out.mono ?_; rintro e w1 ⟨dn, g, cc, hdn, hdf, rfl, hrow, h1⟩; have H1 := Lib.hid (pres_box h1); obtain ⟨q0, q1, q2, q3, u0, u1, u2, u3⟩ := box_facts H1.out.2.1; have hlw := H1.out.2.2; have hnw := Nat.ne_of_lt hlw; have HDN := Lib.hid hdn; have HDF := Lib.hid hdf; clear h1 hrow hdn hdf; simp only [spotV, ptrV])
  refine bodyPost_ret (v := .tuple #[.agg #[.pointer (some ⟨A d, 0, none⟩), .string ⟨k.toArray⟩, .pointer (some ⟨na, 0, none⟩), .slice (some ⟨g, 0, none⟩) lg cc], .int .i64 0]) ?_ rfl ?_
  · have k0 := fun u0 u1 u2 u3 o => (fin4 H1.out.2.1 u0 u1 u2 u3 o).1
    have k1 := fun u0 u1 u2 u3 o => (fin4 H1.out.2.1 u0 u1 u2 u3 o).2.1
    have k2 := fun u0 u1 u2 u3 o => (fin4 H1.out.2.1 u0 u1 u2 u3 o).2.2.1
    have k3 := fun u0 u1 u2 u3 o => (fin4 H1.out.2.1 u0 u1 u2 u3 o).2.2.2
    simp [results, Tryd.results42, go_sem, k0, k1, k2, k3]
    try rfl
  · exact ⟨⟨_, _, _, rfl⟩, (below4 H1.out.1 _ _ _ _).alloc (by simp; omega) _⟩
end
end Go.Proofs.YtjagnihkpgbjeaaDoor

namespace Go.Proofs.YtjagnihkpgbjeaaDoor
open Go.RowKit Go.Maps Go.ChangeMaps
set_option linter.unusedVariables false
theorem root_no : ¬ (0 ≤ at_ root1 0 (root1.size + 1) 0) := by decide
theorem path_of {p : ByteArray} {L : Pth} (h : parts root1 p = L) (hG : Good L) (hs : ∀ x ∈ L, x.length ≤ 60) (hf : L.length ≤ 20) (hw : (written L).length ≤ 200) (hp0 : p.size ≠ 0) (hps : p.size ≤ 30000) (hz : ∀ c ∈ p.data.toList, c ≠ 0) :
    findL p = L ∧ (∀ T, findE T p = (wayE T [] L : Nat)) ∧ PathOk p := by
  have ha : abs_ root1 p = (written L, 0) := by
    unfold abs_
    rw [if_neg, h, if_neg, if_neg]
    · omega
    · rintro ⟨x, hx, g⟩; have := hs x hx; omega
    · rintro (g | g | g)
      · exact hp0 g
      · exact hz 0 ((at_mem p 0).1 g) rfl
      · exact root_no g
  have hL : findL p = L := by
    unfold findL
    rw [ha]
    show parts root1 ⟨(written L).toArray⟩ = L
    rw [parts_eq]
    have : (⟨(written L).toArray⟩ : ByteArray).data.toList = written L := by simp
    rw [this]
    exact partsL_written _ hG
  refine ⟨hL, fun T => ?_, hps, by rw [ha]; show (written L).length ≤ 40000; omega, by rw [hL]; omega, fun x hx => ?_⟩
  · unfold findE
    rw [ha, hL]; rfl
  · rw [hL] at hx
    have := hs x hx
    unfold maxLen; omega
/-- A name that a directory may hold. -/
structure Nm (s : Bz) : Prop where
  ne : s ≠ []
  dot : s ≠ [46]
  dots : s ≠ [46, 46]
  no : ∀ c ∈ s, c ≠ 47
  nul : ∀ c ∈ s, c ≠ 0
  le : s.length ≤ 60
theorem push_nm {s : Bz} (h : Nm s) (l : List Bs) : push l s = l ++ [s] := by
  unfold push
  rw [if_neg (by rintro (e | e); exact h.ne e; exact h.dot e), if_neg h.dots]
theorem parts_of (p : ByteArray) : parts root1 p = (sp p.data.toList).foldl push [] := by
  unfold parts
  by_cases h : 0 < p.size ∧ gb p 0 = 47
  · rw [if_pos h]
  · rw [if_neg h]; rfl
theorem nm_parts {s : ByteArray} (h : Nm s.data.toList) : parts root1 (⟨#[47, 100, 47]⟩ ++ s) = [[100], s.data.toList] ∧ parts root1 (⟨#[100, 47]⟩ ++ s) = [[100], s.data.toList] := by
  have e1 : ((⟨#[47, 100, 47]⟩ : ByteArray) ++ s).data.toList = [] ++ 47 :: ([100] ++ 47 :: s.data.toList) := by simp
  have e2 : ((⟨#[100, 47]⟩ : ByteArray) ++ s).data.toList = [100] ++ 47 :: s.data.toList := by simp
  have hn : ∀ c ∈ ([100] : Bz), c ≠ 47 := by decide
  have hd : push ([] : List Bs) [100] = [[100]] := by decide
  constructor
  · rw [parts_of, e1, sp_cut [] _ (by simp), sp_cut [100] _ hn, sp_all _ h.no]
    show List.foldl push (push (push (push [] []) [100]) s.data.toList) [] = _
    rw [show push ([] : List Bs) [] = [] from rfl, hd, push_nm h]; rfl
  · rw [parts_of, e2, sp_cut [100] _ hn, sp_all _ h.no]
    show List.foldl push (push (push [] [100]) s.data.toList) [] = _
    rw [hd, push_nm h]; rfl
theorem nm_good {s : Bz} (h : Nm s) : Good [[100], s] := by
  intro x hx
  simp at hx
  rcases hx with rfl | rfl
  · decide
  · exact ⟨h.ne, h.dot, h.dots, h.no⟩
theorem nm_path {s : ByteArray} (h : Nm s.data.toList) (p : ByteArray) (hp : p = ⟨#[47, 100, 47]⟩ ++ s ∨ p = ⟨#[100, 47]⟩ ++ s) : findL p = [[100], s.data.toList] ∧ (∀ T, findE T p = (wayE T [] [[100], s.data.toList] : Nat)) ∧ PathOk p := by
  have hl : s.data.toList.length = s.size := Array.length_toList
  have hle := h.le
  have hsz : p.size = p.data.toList.length := Array.length_toList.symm
  have hdl : p.data.toList = 47 :: 100 :: 47 :: s.data.toList ∨ p.data.toList = 100 :: 47 :: s.data.toList := by
    rcases hp with rfl | rfl
    · exact .inl (by simp)
    · exact .inr (by simp)
  have hw : (written [[100], s.data.toList]).length ≤ 200 := by simp [written, joined]; omega
  refine path_of ?_ (nm_good h) (fun x hx => ?_) (by simp) hw ?_ ?_ ?_
  · rcases hp with rfl | rfl
    · exact (nm_parts h).1
    · exact (nm_parts h).2
  · simp at hx
    rcases hx with rfl | rfl
    · simp
    · exact hle
  · rw [hsz]; rcases hdl with e | e <;> rw [e] <;> simp
  · rw [hsz]; rcases hdl with e | e <;> rw [e] <;> simp only [List.length_cons] <;> omega
  · intro c hc
    rcases hdl with e | e
    · rw [e] at hc
      simp at hc
      rcases hc with rfl | rfl | rfl | hc
      · decide
      · decide
      · decide
      · exact h.nul c (by simpa using hc)
    · rw [e] at hc
      simp at hc
      rcases hc with rfl | rfl | hc
      · decide
      · decide
      · exact h.nul c (by simpa using hc)
theorem path_d : findL ⟨#[47, 100]⟩ = [[100]] ∧ (∀ T, findE T ⟨#[47, 100]⟩ = (wayE T [] [[100]] : Nat)) ∧ PathOk ⟨#[47, 100]⟩ :=
  path_of (by decide) (by unfold Good; decide) (by decide) (by decide) (by decide) (by decide) (by decide) (by decide)
theorem path_x : findL ⟨#[47, 120]⟩ = [[120]] ∧ (∀ T, findE T ⟨#[47, 120]⟩ = (wayE T [] [[120]] : Nat)) ∧ PathOk ⟨#[47, 120]⟩ :=
  path_of (by decide) (by unfold Good; decide) (by decide) (by decide) (by decide) (by decide) (by decide) (by decide)
theorem path_a : findL ⟨#[47, 97]⟩ = [[97]] ∧ (∀ T, findE T ⟨#[47, 97]⟩ = (wayE T [] [[97]] : Nat)) ∧ PathOk ⟨#[47, 97]⟩ :=
  path_of (by decide) (by unfold Good; decide) (by decide) (by decide) (by decide) (by decide) (by decide) (by decide)
end Go.Proofs.YtjagnihkpgbjeaaDoor
