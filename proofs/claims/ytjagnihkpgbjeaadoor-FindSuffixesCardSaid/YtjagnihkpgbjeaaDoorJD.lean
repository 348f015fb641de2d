import Derived.Test.YtjagnihkpgbjeaaDoorHK
namespace Go.Proofs.YtjagnihkpgbjeaaDoor
open Go.RowKit Go.Maps Go.ChangeMaps
set_option linter.unusedVariables false
/-! run where each rule with a recipe is a pattern with one target, which matches, and one need. -/
structure PatOk (st back : Bs) (r : Rl) : Prop where
  ts : r.ts = [37 :: back]
  ns : ∃ nb, r.ns = [37 :: nb] ∧ Nm (st ++ nb) ∧ st.length + nb.length ≤ 10000
def needF (st : Bs) (r : Rl) : Bs := st ++ (r.ns.headD []).tail
def fitF (T : Tr) (rs : List Rl) (st : Bs) (r : Rl) : Bool := !r.rc.isEmpty && (decide (kdF T (needF st r) ≠ 0) || knownF rs (needF st r))
structure Fit where
  st : Bs
  ns : List Bs
  rc : List Bs
  ok : Bool
def fitOf (st : Bs) : Option Rl → Fit
  | none => ⟨[], [], [], false⟩
  | some r => ⟨st, [needF st r], r.rc, true⟩
def RunP (B : Nat) (F : Fit) (w : World) (e : Ending) (w' : World) : Prop := ∃ nv rv, e = .returned (.tuple #[.agg #[nv, rv, .string (nameB F.st), .bool false], .bool F.ok]) ∧ SlS w' nv F.ns ∧ SlS w' rv F.rc ∧ Below w.heap.size w w' ∧ (∀ g, rv.ownBlock = some g → g < B) ∧ (F.ok = false → nv = .slice none 0 0 ∧ rv = .slice none 0 0)
theorem find_drop {α : Type} (p : α → Bool) (l : List α) (k : Nat) (h : k < l.length) : (l.drop k).find? p = if p l[k] then some l[k] else (l.drop (k + 1)).find? p := by
  rw [List.drop_eq_getElem_cons h, List.find?_cons]
  cases p l[k] <;> rfl
theorem SlS.blk_lt {w : World} {v : Value} {l : List Bs} (h : SlS w v l) : ∀ g, v.ownBlock = some g → g < w.heap.size := by
  intro g hg
  rcases h with ⟨rfl, _⟩ | ⟨g', off, c, rfl, _, _, h3, _⟩
  · cases hg
  · injection hg with hg
    have hg : g' = g := hg
    omega
theorem run_fin {w w6 : World} {a0 a1 : Option Addr} {n0 c0 n1 c1 : Nat} {sv : Value} {ns rc : List Bs} {b : Nat} (hnv : SlS w6 (.slice a0 n0 c0) ns) (hrv : SlS w (.slice a1 n1 c1) rc) (hB : Below w.heap.size w w6) (hb : w.heap.size ≤ b) (hfr : ∀ g, Value.ownBlock (.slice a0 n0 c0) = some g → g ≠ b) (hz : w6.heap[b]? = some (.cells [.slice none 0 0, .slice none 0 0, .string ⟨#[]⟩, .bool false].toArray 50 (0, 0))) (W8 : World) (hW : w6.alloc (.cells #[.slice a0 n0 c0, .slice a1 n1 c1, sv, .bool false] 50) = W8) :
    W8.heap[b]? = some (.cells [.slice none 0 0, .slice none 0 0, .string ⟨#[]⟩, .bool false].toArray 50 (0, 0)) ∧
    SlS ((((W8.setCell ⟨b, 0, none⟩ (.slice a0 n0 c0)).setCell ⟨b, 1, none⟩ (.slice a1 n1 c1)).setCell ⟨b, 2, none⟩ sv).setCell ⟨b, 3, none⟩ (.bool false)) (.slice a0 n0 c0) ns ∧
    SlS ((((W8.setCell ⟨b, 0, none⟩ (.slice a0 n0 c0)).setCell ⟨b, 1, none⟩ (.slice a1 n1 c1)).setCell ⟨b, 2, none⟩ sv).setCell ⟨b, 3, none⟩ (.bool false)) (.slice a1 n1 c1) rc ∧
    Below w.heap.size w ((((W8.setCell ⟨b, 0, none⟩ (.slice a0 n0 c0)).setCell ⟨b, 1, none⟩ (.slice a1 n1 c1)).setCell ⟨b, 2, none⟩ sv).setCell ⟨b, 3, none⟩ (.bool false)) := by
  have h68 : Below w6.heap.size w6 W8 := hW ▸ below_alloc _ _
  have hB8 : Below w.heap.size w W8 := hB.trans (h68.mono hB.size)
  have hO : Only (fun j => j = b) W8 ((((W8.setCell ⟨b, 0, none⟩ (.slice a0 n0 c0)).setCell ⟨b, 1, none⟩ (.slice a1 n1 c1)).setCell ⟨b, 2, none⟩ sv).setCell ⟨b, 3, none⟩ (.bool false)) :=
    ((((Only.refl (fun j => j = b) W8).set (.inl rfl) 0 _).set (.inl rfl) 1 _).set (.inl rfl) 2 _ |>.set (.inl rfl) 3 _)
  exact ⟨(h68.block _ (Array.getElem?_eq_some_iff.1 hz).1).trans hz, (hnv.below h68).only2 hO (fun g _ hg e => hfr g hg e), (hrv.below hB8).only2 hO (fun g _ hg e => by have := hrv.blk_lt g hg; omega), below_set (below_set (below_set (below_set hB8 hb _ _) hb _ _) hb _ _) hb _ _⟩
theorem pct_pat (b : Bs) : pct (37 :: b) = true := by unfold pct; simp [Lib.indexByte]
set_option maxRecDepth 100000 in
set_option maxHeartbeats 4000000 in
theorem run_pats {w : World} {B N f : Nat} {c : Cn} {T : Tr} {F : Nat → Prop} (hF : Fs w B N f c T F) (hm : Hm w) (sb : Nat) (ms rv : Value) (rs : List Rl) (st back : Bs) (wb : World) (hwb : Below wb.heap.size wb w) (hv0 : RsV wb rv rs) (hl : rs.length ≤ 1000) (hrc : ∀ r ∈ rs, r.rc = [] ∨ PatOk st back r) (hst : st ≠ []) (hl1 : st.length + back.length ≤ 10000) (hlt : sb < w.heap.size)
    (q0 : w.cell? ⟨sb, 0, none⟩ = some ms) (q1 : w.cell? ⟨sb, 1, none⟩ = some rv) (q2 : w.cell? ⟨sb, 2, none⟩ = some (.pointer (some ⟨f, 0, none⟩))) (q3 : w.cell? ⟨sb, 3, none⟩ = some (.string ⟨#[47]⟩)) (q4 : w.cell? ⟨sb, 4, none⟩ = some (.string (nameB (st ++ back)))) (hms : ∃ a n c, ms = .slice a n c) :
    Calls Tryd.prog 53 #[.pointer (some ⟨sb, 0, none⟩)] w (RunP wb.heap.size (fitOf st (rs.find? (fitF T rs st))) w) := by
  have hv := hv0.below hwb
  have HWB := Lib.hid hwb
  obtain ⟨Q, hQ⟩ : ∃ Q, RunP wb.heap.size (fitOf st (rs.find? (fitF T rs st))) w = Q := ⟨_, rfl⟩
  have HQ : Hid (∀ e w', RunP wb.heap.size (fitOf st (rs.find? (fitF T rs st))) w e w' → Q e w') := fun e w' h => by rw [← hQ]; exact h
  rw [hQ]
  clear hQ
  obtain ⟨ma, mn, mc, rfl⟩ := hms
  have HPAT := Lib.hid (fun (w' : World) (hb : Below w.heap.size w w') (tv nv rcv : Value) (r : Rl) (hp : PatOk st back r) (h3 : Rl3 w tv nv rcv r) (b : Bool) (hbb : (decide (kdF T (needF st r) ≠ 0) || knownF rs (needF st r)) = b) => (show Calls Tryd.prog 80 #[.pointer (some ⟨sb, 0, none⟩), .agg #[tv, nv, rcv]] w' fun e w'' => ∃ nv', e = .returned (.tuple #[.agg #[nv', rcv, .string (nameB st), .bool false], .bool b]) ∧ SlS w'' nv' (if b then [needF st r] else []) ∧ Below w'.heap.size w' w'' ∧ ∀ g, nv'.ownBlock = some g → w'.heap.size ≤ g from by
    obtain ⟨nb, hn, hnm, hln⟩ := hp.ns
    obtain ⟨ts, ns, rc⟩ := r
    have e1 : ts = [37 :: back] := hp.ts
    have e2 : ns = [37 :: nb] := hn
    subst e1; subst e2
    exact pat_any (hF.below hb) (hm.below hb) sb (Nat.lt_of_lt_of_le hlt hb.size) st back nb [] rc tv nv rcv _ rv rs ((hb.cell (p := ⟨sb, 0, none⟩) hlt).trans q0) ((hb.cell (p := ⟨sb, 1, none⟩) hlt).trans q1) ((hb.cell (p := ⟨sb, 2, none⟩) hlt).trans q2) ((hb.cell (p := ⟨sb, 3, none⟩) hlt).trans q3) ((hb.cell (p := ⟨sb, 4, none⟩) hlt).trans q4) (h3.below hb) hst hl1 hln hnm (hv.below hb) hl ⟨_, _, _, rfl⟩ b hbb))
  obtain ⟨STB, hSTB⟩ : ∃ STB, nameB st = STB := ⟨_, rfl⟩
  rw [hSTB] at HPAT
  have HSTB := Lib.hid hSTB
  clear q2 q3 q4 hSTB
  obtain ⟨W, hW⟩ : ∃ W, w.alloc (.cells #[.slice none 0 0, .slice none 0 0, .string ⟨#[]⟩, .bool false] 50) = W := ⟨_, rfl⟩
  have hB : Below w.heap.size w W := hW ▸ below_alloc _ _
  have hblk : W.heap[w.heap.size]? = some (.cells [.slice none 0 0, .slice none 0 0, .string ⟨#[]⟩, .bool false].toArray 50 (0, 0)) := hW ▸ heap_alloc_new w _
  have hsz : w.heap.size < W.heap.size := by rw [← hW, size_alloc]; omega
  have HV := Lib.hid hv0
  have HS := Lib.hid (fun (w' : World) (hb : Below w.heap.size w w') => Special_any (.slice ma mn mc) rv rs ⟨#[46, 83, 85, 70, 70, 73, 88, 69, 83]⟩ w' (hv.below hb) hl)
  have HC0 := Lib.hid (fun (w' : World) (hb : Below w.heap.size w w') => (hb.cell (p := ⟨sb, 0, none⟩) hlt).trans q0)
  have HC1 := Lib.hid (fun (w' : World) (hb : Below w.heap.size w w') => (hb.cell (p := ⟨sb, 1, none⟩) hlt).trans q1)
  obtain ⟨a, c, rfl⟩ := hv.len
  obtain ⟨n, hn⟩ : ∃ n, rs.length = n := ⟨_, rfl⟩
  have HN := Lib.hid hn
  have HRC := Lib.hid hrc
  have HWW := Lib.hid hW
  have HB := Lib.hid hB
  have HBLK := Lib.hid hblk
  have HSZ := Lib.hid hsz
  rw [hn] at hl HV HS q1 HC1
  clear hv hv0 hwb hrc hn hB hblk hsz hW
  go_enter Tryd.func53, Tryd.ntmps53
  go_wp2_with fail
  rw [HWW.out]
  go_loopw [19] (fun i wr => ∃ k : Nat, k ≤ n ∧ i = .int .i64 k ∧ Hid (Below W.heap.size W wr) ∧ Hid (rs.find? (fitF T rs st) = (rs.drop k).find? (fitF T rs st))) (fun i _ => n - (intOf i).toNat)
  case atStart => exact ⟨0, Nat.zero_le _, rfl, Below.refl _ _, rfl⟩
  case round =>
    obtain ⟨k, hk, rfl, HX, HFD⟩ := hrel
    by_cases hlt : k < n
    · have hltI : (k : Int) < (n : Int) := by omega
      have h0 : (0 : Int) ≤ (k : Int) := by omega
      have hlr : k < rs.length := by rw [HN.out]; exact hlt
      obtain ⟨g, off, a0, n0, c0, a1, n1, c1, a2, n2, c2, rfl, q0, q1, q2, hr⟩ := HV.out.get2 (HWB.out.trans ((HB.out.trans (HX.out.mono HB.out.size)).mono HWB.out.size)) k hlr
      have hadd := addk3 g off k
      have HFD2 : Hid (rs.find? (fitF T rs st) = if fitF T rs st rs[k] then some rs[k] else (rs.drop (k + 1)).find? (fitF T rs st)) := HFD.out.trans (find_drop _ _ k hlr)
      rcases HRC.out _ (List.getElem_mem hlr) with hrc | hpo
      · have hn2 : n2 = 0 := by
          obtain ⟨a', c', e⟩ := hr.k.len
          rw [hrc] at e
          injection e
        subst hn2
        have HFN : Hid (rs.find? (fitF T rs st) = (rs.drop (k + 1)).find? (fitF T rs st)) := by
          rw [Hid, HFD2.out, if_neg]
          unfold fitF; rw [hrc]; simp
        have HR3 := Lib.hid hr
        clear hr hrc
        go_wp2_with fail
        exact ⟨⟨k + 1, by omega, by go_num, HX.out.trans ((below_alloc _ _).mono HX.out.size), HFN.out⟩, by simp [intOf]; omega⟩
      · by_cases hrc : rs[k].rc = []
        · have hn2 : n2 = 0 := by
            obtain ⟨a', c', e⟩ := hr.k.len
            rw [hrc] at e
            injection e
          subst hn2
          have HFN : Hid (rs.find? (fitF T rs st) = (rs.drop (k + 1)).find? (fitF T rs st)) := by
            rw [Hid, HFD2.out, if_neg]
            unfold fitF; rw [hrc]; simp
          have HR3 := Lib.hid hr
          clear hr hrc
          go_wp2_with fail
          exact ⟨⟨k + 1, by omega, by go_num, HX.out.trans ((below_alloc _ _).mono HX.out.size), HFN.out⟩, by simp [intOf]; omega⟩
        · have hn2 : 0 < n2 := by
            obtain ⟨a', c', e⟩ := hr.k.len
            have : n2 = rs[k].rc.length := by injection e
            rw [this]; exact List.length_pos_iff.2 hrc
          have hn2I : (0 : Int) < (n2 : Int) := by omega
          obtain ⟨fit, hfit⟩ : ∃ fit, (decide (kdF T (needF st rs[k]) ≠ 0) || knownF rs (needF st rs[k])) = fit := ⟨_, rfl⟩
          have HFT : Hid (fitF T rs st rs[k] = fit) := by
            unfold fitF; rw [Hid, hfit]
            cases h : rs[k].rc with
            | nil => exact absurd h hrc
            | cons => rfl
          have HR3 := Lib.hid hr
          have HPLN : Hid (isPlainF rs[k] = false) := by unfold isPlainF; rw [Hid, hpo.ts]; simp [pct_pat]
          have HPO := Lib.hid hpo
          have HFIT := Lib.hid hfit
          have HRCN := Lib.hid hrc
          have hbr : Below w.heap.size w wr := HB.out.trans (HX.out.mono HB.out.size)
          have HBR := Lib.hid hbr
          clear hr hpo hfit hrc hbr
          cases fit with
          | false =>
            have HFN : Hid (rs.find? (fitF T rs st) = (rs.drop (k + 1)).find? (fitF T rs st)) := by
              rw [Hid, HFD2.out, if_neg (by rw [HFT.out]; decide)]
            go_wp2_with (first
              | (go_at_call 79; ((with_reducible refine (isPlain_any _ _ _ rs[k] _ (HR3.out.below (HWB.out.trans ((HBR.out.trans ((below_alloc _ _).mono HBR.out.size)).mono HWB.out.size))) false HPLN.out).mono ?_)); rintro e w5 ⟨rfl, h5⟩; have e5 := (h5.block _ (by rw [size_alloc]; exact Nat.lt_succ_self _)).trans (heap_alloc_new wr _); have x0 : w5.cell? ⟨wr.heap.size, 0, none⟩ = some (.slice a0 n0 c0) := cell_of (cs := [.slice a0 n0 c0, .slice a1 n1 c1, .slice a2 n2 c2]) e5 0; have x1 : w5.cell? ⟨wr.heap.size, 1, none⟩ = some (.slice a1 n1 c1) := cell_of (cs := [.slice a0 n0 c0, .slice a1 n1 c1, .slice a2 n2 c2]) e5 1; have x2 : w5.cell? ⟨wr.heap.size, 2, none⟩ = some (.slice a2 n2 c2) := cell_of (cs := [.slice a0 n0 c0, .slice a1 n1 c1, .slice a2 n2 c2]) e5 2; have H5 : Hid (Below wr.heap.size wr w5) := below_trans (below_alloc _ _) h5; clear h5 e5; simp only [])
              | (go_at_call 80; ((with_reducible refine (HPAT.out _ (HBR.out.trans (H5.out.mono HBR.out.size)) _ _ _ rs[k] HPO.out (HR3.out.below HWB.out) false HFIT.out).mono ?_)); rintro e w6 ⟨nv', rfl, hnv, h6, hfr⟩; obtain ⟨va, vn, vc, rfl⟩ := sl_form hnv; have H6 : Hid (Below wr.heap.size wr w6) := below_trans H5.out h6; clear hnv h6 hfr; simp only []))
            exact ⟨⟨k + 1, by omega, by go_num, HX.out.trans ((below_trans H6.out (below_alloc _ _)).mono HX.out.size), HFN.out⟩, by simp [intOf]; omega⟩
          | true =>
            have HFN : Hid (rs.find? (fitF T rs st) = some rs[k]) := by
              rw [Hid, HFD2.out, if_pos HFT.out]
            go_wp2_with (first
              | (go_at_call 79; ((with_reducible refine (isPlain_any _ _ _ rs[k] _ (HR3.out.below (HWB.out.trans ((HBR.out.trans ((below_alloc _ _).mono HBR.out.size)).mono HWB.out.size))) false HPLN.out).mono ?_)); rintro e w5 ⟨rfl, h5⟩; have e5 := (h5.block _ (by rw [size_alloc]; exact Nat.lt_succ_self _)).trans (heap_alloc_new wr _); have x0 : w5.cell? ⟨wr.heap.size, 0, none⟩ = some (.slice a0 n0 c0) := cell_of (cs := [.slice a0 n0 c0, .slice a1 n1 c1, .slice a2 n2 c2]) e5 0; have x1 : w5.cell? ⟨wr.heap.size, 1, none⟩ = some (.slice a1 n1 c1) := cell_of (cs := [.slice a0 n0 c0, .slice a1 n1 c1, .slice a2 n2 c2]) e5 1; have x2 : w5.cell? ⟨wr.heap.size, 2, none⟩ = some (.slice a2 n2 c2) := cell_of (cs := [.slice a0 n0 c0, .slice a1 n1 c1, .slice a2 n2 c2]) e5 2; have H5 : Hid (Below wr.heap.size wr w5) := below_trans (below_alloc _ _) h5; clear h5 e5; simp only [])
              | (go_at_call 80; ((with_reducible refine (HPAT.out _ (HBR.out.trans (H5.out.mono HBR.out.size)) _ _ _ rs[k] HPO.out (HR3.out.below HWB.out) true HFIT.out).mono ?_)); rintro e w6 ⟨nv', rfl, hnv, h6, hfr⟩; obtain ⟨va, vn, vc, rfl⟩ := sl_form hnv; have H6 : Hid (Below wr.heap.size wr w6) := below_trans H5.out h6; have hz6 := ((HX.out.trans (H6.out.mono HX.out.size)).block _ HSZ.out).trans HBLK.out; have hlt5 : w.heap.size < w5.heap.size := Nat.lt_of_lt_of_le HSZ.out (Nat.le_trans HX.out.size H5.out.size); obtain ⟨e8, f1, f2, f3⟩ := run_fin (sv := .string STB) hnv (HR3.out.k.below HWB.out) (HBR.out.trans (H6.out.mono HBR.out.size)) (Nat.le_refl _) (fun g hg e => absurd (hfr g hg) (e ▸ Nat.not_le_of_lt hlt5)) hz6 _ rfl; obtain ⟨z0, z1, z2, z3, y0, y1, y2, y3⟩ := box50 e8; have HFX := Lib.hid (fin50 (u0 := .slice va vn vc) (u1 := .slice a2 n2 c2) (u2 := .string STB) (u3 := .bool false) e8); have HNV := Lib.hid f1; have HRV := Lib.hid f2; have HOL := Lib.hid f3; clear hz6 e8 f1 f2 f3 hnv h6 hfr hlt5; simp only []))
            refine bodyPost_ret (v := .tuple #[.agg #[.slice va vn vc, .slice a2 n2 c2, .string STB, .bool false], .bool true]) ?_ rfl ?_
            · obtain ⟨k0, k1, k2, k3, _⟩ := box50 HFX.out
              simp [results, Tryd.results53, go_sem, k0, k1, k2, k3]
              try rfl
            · refine HQ.out _ _ ?_
              rw [HFN.out]
              exact ⟨_, _, by rw [← HSTB.out]; rfl, HNV.out, HRV.out, HOL.out, HR3.out.k.blk_lt, fun h => by cases h⟩
    · have hltI : ¬ (k : Int) < (n : Int) := by omega
      have HFE : Hid (rs.find? (fitF T rs st) = none) := by rw [Hid, HFD.out, List.drop_of_length_le (by rw [HN.out]; omega)]; rfl
      have p0 := HC0.out _ (HB.out.trans (HX.out.mono HB.out.size))
      have p1 := HC1.out _ (HB.out.trans (HX.out.mono HB.out.size))
      go_wp2_with (go_at_call 81; refine (HS.out _ (HB.out.trans (HX.out.mono HB.out.size))).mono ?_; rintro e w1 ⟨u, rfl, h1⟩; have H1 := Lib.hid (HB.out.trans ((below_trans HX.out h1.old).mono HB.out.size)); have HBX := Lib.hid (((below_trans HX.out h1.old).block _ HSZ.out).trans HBLK.out); obtain ⟨ua, un, uc, rfl⟩ := sl_form h1.sls; clear h1; have p0 := HC0.out _ H1.out; have p1 := HC1.out _ H1.out; simp only [])
      go_loopw [52] (fun i wr => ∃ k : Nat, k ≤ n ∧ i = .int .i64 k ∧ Hid (Below w1.heap.size w1 wr)) (fun i _ => n - (intOf i).toNat)
      case atStart => exact ⟨0, Nat.zero_le _, rfl, Below.refl _ _⟩
      case round =>
        obtain ⟨k, hk, rfl, HX⟩ := hrel
        by_cases hlt : k < n
        · have hltI : (k : Int) < (n : Int) := by omega
          have h0 : (0 : Int) ≤ (k : Int) := by omega
          have hlr : k < rs.length := by rw [HN.out]; exact hlt
          obtain ⟨g, off, a0, n0, c0, a1, n1, c1, a2, n2, c2, rfl, q0, q1, q2, hr⟩ := HV.out.get2 (HWB.out.trans ((H1.out.trans (HX.out.mono H1.out.size)).mono HWB.out.size)) k hlr
          have hadd := addk3 g off k
          rcases HRC.out _ (List.getElem_mem hlr) with hrc | hpo
          · have hn2 : n2 = 0 := by
              obtain ⟨a', c', e⟩ := hr.k.len
              rw [hrc] at e
              injection e
            subst hn2
            have HR3 := Lib.hid hr
            clear hr
            go_wp2_with fail
            exact ⟨⟨k + 1, by omega, by go_num, HX.out.trans ((below_alloc _ _).mono HX.out.size)⟩, by simp [intOf]; omega⟩
          · have hn1 : n1 = 1 := by
              obtain ⟨nb, hn, _⟩ := hpo.ns
              obtain ⟨a', c', e⟩ := hr.n.len
              rw [hn] at e
              injection e
            subst hn1
            have HR3 := Lib.hid hr
            clear hr hpo
            by_cases h2 : n2 = 0
            · subst h2
              go_wp2_with fail
              exact ⟨⟨k + 1, by omega, by go_num, HX.out.trans ((below_alloc _ _).mono HX.out.size)⟩, by simp [intOf]; omega⟩
            · have hn2I : (0 : Int) < (n2 : Int) := by omega
              have hn2 : 0 < n2 := by omega
              go_wp2_with fail
              exact ⟨⟨k + 1, by omega, by go_num, HX.out.trans ((below_alloc _ _).mono HX.out.size)⟩, by simp [intOf]; omega⟩
        · have hltI : ¬ (k : Int) < (n : Int) := by omega
          have hbx := (HX.out.block _ (World.block_lt_of_cell? _ _ (cell_of HBX.out 0))).trans HBX.out
          obtain ⟨z0, z1, z2, z3, y0, y1, y2, y3⟩ := box50 hbx
          have HFX := Lib.hid (fin50 (u0 := .slice none 0 0) (u1 := .slice none 0 0) (u2 := .string ⟨#[]⟩) (u3 := .bool false) hbx)
          have HOL : Hid (Below w.heap.size w wr) := H1.out.trans (HX.out.mono H1.out.size)
          clear hbx
          go_wp2_with fail
          have hf := HFX.out
          refine bodyPost_ret (v := .tuple #[.agg #[.slice none 0 0, .slice none 0 0, .string ⟨#[]⟩, .bool false], .bool false]) ?_ rfl ?_
          · obtain ⟨k0, k1, k2, k3, _⟩ := box50 hf
            simp [results, Tryd.results53, go_sem, k0, k1, k2, k3]
            try rfl
          · refine HQ.out _ _ ?_
            have hnone : rs.find? (fitF T rs st) = none := by rw [HFE.out]
            rw [hnone]
            exact ⟨_, _, rfl, .inl ⟨rfl, rfl⟩, .inl ⟨rfl, rfl⟩, below_set (below_set (below_set (below_set HOL.out (Nat.le_refl _) _ _) (Nat.le_refl _) _ _) (Nat.le_refl _) _ _) (Nat.le_refl _) _ _, fun g hg => (by cases hg), fun _ => ⟨rfl, rfl⟩⟩
end Go.Proofs.YtjagnihkpgbjeaaDoor

namespace Go.Proofs.YtjagnihkpgbjeaaDoor
open Go.RowKit Go.Maps Go.ChangeMaps
set_option linter.unusedVariables false
/-! Plan of a target that no plain rule makes and that a pattern fits. -/
def PlanH (F : Fit) (w : World) (e : Ending) (w' : World) : Prop := ∃ nv rv, e = .returned (.agg #[nv, rv, .string (nameB F.st), .bool F.ok]) ∧ SlS w' nv F.ns ∧ SlS w' rv F.rc ∧ Below w.heap.size w w'
/-- Behind run: the boxes, the fit's lists. -/
structure PF (w w5 : World) (b9 b8 b13 : Nat) (nv rv sv : Value) (ns rc : List Bs) : Prop where
  z9 : w5.heap[b9]? = some (.cells [.slice none 0 0, .slice none 0 0, .string ⟨#[]⟩, .bool false].toArray 50 (0, 0))
  z8 : w5.heap[b8]? = some (.cells [.slice none 0 0, .slice none 0 0, .string ⟨#[]⟩, .bool false].toArray 50 (0, 0))
  z13 : w5.heap[b13]? = some (.cells [nv, rv, sv, .bool false].toArray 50 (0, 0))
  n : SlS w5 nv ns
  r : SlS w5 rv rc
  old : Below w.heap.size w w5
  rg : ∀ g, rv.ownBlock = some g → g < w.heap.size
structure PG (w w6 : World) (b9 b8 b13 : Nat) (nv v' rv sv : Value) (ns rc : List Bs) : Prop where
  z9 : w6.heap[b9]? = some (.cells [.slice none 0 0, .slice none 0 0, .string ⟨#[]⟩, .bool false].toArray 50 (0, 0))
  z8 : w6.heap[b8]? = some (.cells [.slice none 0 0, .slice none 0 0, .string ⟨#[]⟩, .bool false].toArray 50 (0, 0))
  z13 : w6.heap[b13]? = some (.cells [nv, rv, sv, .bool false].toArray 50 (0, 0))
  n : SlS w6 v' ns
  r : SlS w6 rv rc
  old : Below w.heap.size w w6
  rg : ∀ g, rv.ownBlock = some g → g < w.heap.size
  ng : ∀ g, v'.ownBlock = some g → g ≠ b9 ∧ g ≠ b8
theorem pf_mk {w wr w5 : World} {b9 b8 : Nat} {nv rv : Value} {ns rc : List Bs} (h0 : Below w.heap.size w wr) (h5 : Below wr.heap.size wr w5) (hn : SlS w5 nv ns) (hr : SlS w5 rv rc) (hg : ∀ g, rv.ownBlock = some g → g < w.heap.size)
    (z9 : wr.heap[b9]? = some (.cells [.slice none 0 0, .slice none 0 0, .string ⟨#[]⟩, .bool false].toArray 50 (0, 0))) (z8 : wr.heap[b8]? = some (.cells [.slice none 0 0, .slice none 0 0, .string ⟨#[]⟩, .bool false].toArray 50 (0, 0))) (sv : Value) :
    PF w (w5.alloc (.cells #[nv, rv, sv, .bool false] 50)) b9 b8 w5.heap.size nv rv sv ns rc := by
  have ha := below_alloc w5 (.cells #[nv, rv, sv, .bool false] 50)
  have hz := below_trans h5 ha
  exact ⟨(hz.block _ (Array.getElem?_eq_some_iff.1 z9).1).trans z9, (hz.block _ (Array.getElem?_eq_some_iff.1 z8).1).trans z8, heap_alloc_new w5 _, hn.below ha, hr.below ha, h0.trans (hz.mono h0.size), hg⟩
theorem PF.add {w w5 : World} {b9 b8 b13 : Nat} {nv rv sv : Value} {ns rc : List Bs} (h : PF w w5 b9 b8 b13 nv rv sv ns rc) (hl : ns.length ≤ 1000) :
    Calls Tryd.prog 52 #[.slice none 0 0, nv] w5 fun e w6 => ∃ v', e = .returned v' ∧ PG w w6 b9 b8 b13 nv v' rv sv (addF [] ns) rc := by
  refine (addS_any w5.heap.size (fun _ => False) (.slice none 0 0) nv [] ns w5 (Nat.le_refl _) (World.ownsRow_nil _ _ _ _) (fun g hg => by cases hg) (fun w' ho => SlE.of (h.n.only2 ho (fun _ _ _ e => e))) (by simp; omega)).mono ?_
  rintro e w6 ⟨v', rfl, ha⟩
  have l9 := (Array.getElem?_eq_some_iff.1 h.z9).1
  have l8 := (Array.getElem?_eq_some_iff.1 h.z8).1
  have l13 := (Array.getElem?_eq_some_iff.1 h.z13).1
  have hb : Below w5.heap.size w5 w6 := (Below.refl _ _).trans (ha.oth.below (fun _ e => e.elim) (Nat.le_refl _))
  exact ⟨v', rfl, (ha.oth.block _ l9 (fun e => e)).trans h.z9, (ha.oth.block _ l8 (fun e => e)).trans h.z8, (ha.oth.block _ l13 (fun e => e)).trans h.z13, SlS.own ha.own, h.r.below hb, h.old.trans (hb.mono h.old.size), h.rg, fun g hg => by have := (ha.own.lt g hg).1; exact ⟨by omega, by omega⟩⟩
structure PH (w w7 : World) (b9 b8 : Nat) (nv rv sv : Value) (ns rc : List Bs) : Prop where
  z9 : w7.heap[b9]? = some (.cells [nv, rv, sv, .bool true].toArray 50 (0, 0))
  z8 : w7.heap[b8]? = some (.cells [.slice none 0 0, .slice none 0 0, .string ⟨#[]⟩, .bool false].toArray 50 (0, 0))
  n : SlS w7 nv ns
  r : SlS w7 rv rc
  old : Below w.heap.size w w7
  ng : ∀ g, nv.ownBlock = some g → g ≠ b9 ∧ g ≠ b8
theorem PG.set {w w6 : World} {b9 b8 b13 : Nat} {nv v' rv sv : Value} {ns rc : List Bs} (h : PG w w6 b9 b8 b13 nv v' rv sv ns rc) (hne : b8 ≠ b9) (hge : w.heap.size ≤ b9) :
    PH w ((((w6.setCell ⟨b9, 0, none⟩ v').setCell ⟨b9, 1, none⟩ rv).setCell ⟨b9, 2, none⟩ sv).setCell ⟨b9, 3, none⟩ (.bool true)).drew b9 b8 v' rv sv ns rc := by
  have hO : Only (fun j => j = b9) w6 ((((w6.setCell ⟨b9, 0, none⟩ v').setCell ⟨b9, 1, none⟩ rv).setCell ⟨b9, 2, none⟩ sv).setCell ⟨b9, 3, none⟩ (.bool true)) :=
    ((((Only.refl (fun j => j = b9) w6).set (.inl rfl) 0 _).set (.inl rfl) 1 _).set (.inl rfl) 2 _ |>.set (.inl rfl) 3 _)
  have hd : ∀ x : World, Below x.heap.size x x.drew := fun x => (Below.refl _ x).drew
  exact ⟨fin50 h.z9 _ _ _ _, (hO.block _ (Array.getElem?_eq_some_iff.1 h.z8).1 hne).trans h.z8, (h.n.only2 hO (fun g _ hg e => (h.ng g hg).1 e)).below (hd _), (h.r.only2 hO (fun g _ hg e => by have := h.rg g hg; omega)).below (hd _), below_trans (below_set (below_set (below_set (below_set h.old hge _ _) hge _ _) hge _ _) hge _ _) (hd _), h.ng⟩
theorem PH.fin {w w7 w8 : World} {b9 b8 : Nat} {nv rv sv v2 : Value} {ns rc : List Bs} (h : PH w w7 b9 b8 nv rv sv ns rc) (hv : StrO w7 w8 v2 rc) (hne : b8 ≠ b9) (h8 : w.heap.size ≤ b8) (h9 : w.heap.size ≤ b9) :
    w8.heap[b9]? = some (.cells [nv, rv, sv, .bool true].toArray 50 (0, 0)) ∧ w8.heap[b8]? = some (.cells [.slice none 0 0, .slice none 0 0, .string ⟨#[]⟩, .bool false].toArray 50 (0, 0)) ∧
    (((((w8.setCell ⟨b9, 1, none⟩ v2).setCell ⟨b8, 0, none⟩ nv).setCell ⟨b8, 1, none⟩ v2).setCell ⟨b8, 2, none⟩ sv).setCell ⟨b8, 3, none⟩ (.bool true)).heap[b8]? = some (.cells [nv, v2, sv, .bool true].toArray 50 (0, 0)) ∧
    SlS (((((w8.setCell ⟨b9, 1, none⟩ v2).setCell ⟨b8, 0, none⟩ nv).setCell ⟨b8, 1, none⟩ v2).setCell ⟨b8, 2, none⟩ sv).setCell ⟨b8, 3, none⟩ (.bool true)) nv ns ∧
    SlS (((((w8.setCell ⟨b9, 1, none⟩ v2).setCell ⟨b8, 0, none⟩ nv).setCell ⟨b8, 1, none⟩ v2).setCell ⟨b8, 2, none⟩ sv).setCell ⟨b8, 3, none⟩ (.bool true)) v2 rc ∧
    Below w.heap.size w (((((w8.setCell ⟨b9, 1, none⟩ v2).setCell ⟨b8, 0, none⟩ nv).setCell ⟨b8, 1, none⟩ v2).setCell ⟨b8, 2, none⟩ sv).setCell ⟨b8, 3, none⟩ (.bool true)) := by
  have l9 := (Array.getElem?_eq_some_iff.1 h.z9).1
  have l8 := (Array.getElem?_eq_some_iff.1 h.z8).1
  have e9 := (hv.old.block _ l9).trans h.z9
  have e8 := (hv.old.block _ l8).trans h.z8
  have hO : Only (fun j => j = b9 ∨ j = b8) w8 (((((w8.setCell ⟨b9, 1, none⟩ v2).setCell ⟨b8, 0, none⟩ nv).setCell ⟨b8, 1, none⟩ v2).setCell ⟨b8, 2, none⟩ sv).setCell ⟨b8, 3, none⟩ (.bool true)) :=
    ((((Only.refl (fun j => j = b9 ∨ j = b8) w8).set (.inl (.inl rfl)) 1 _).set (.inl (.inr rfl)) 0 _).set (.inl (.inr rfl)) 1 _).set (.inl (.inr rfl)) 2 _ |>.set (.inl (.inr rfl)) 3 _
  have hb8 : (w8.setCell ⟨b9, 1, none⟩ v2).heap[b8]? = some (.cells [.slice none 0 0, .slice none 0 0, .string ⟨#[]⟩, .bool false].toArray 50 (0, 0)) := by
    rw [Below.heap_setCell _ _ _ _ (by show b8 ≠ b9; exact hne)]; exact e8
  have hB : Below w.heap.size w w8 := below_trans h.old hv.old
  exact ⟨e9, e8, fin50 hb8 _ _ _ _, (h.n.below hv.old).only2 hO (fun g _ hg e => by rcases e with e | e; exact (h.ng g hg).1 e; exact (h.ng g hg).2 e), hv.sls.only2 hO (fun g _ hg e => by have := (hv.own.lt g hg).1; rcases e with e | e <;> omega), below_set (below_set (below_set (below_set (below_set hB h9 _ _) h8 _ _) h8 _ _) h8 _ _) h8 _ _⟩
set_option maxRecDepth 100000 in
set_option maxHeartbeats 8000000 in
theorem Plan_hit {w : World} {B N f : Nat} {c : Cn} {T : Tr} {F : Nat → Prop} (hF : Fs w B N f c T F) (hm : Hm w) (ms v : Value) (rs : List Rl) (st back : Bs) (hv : RsV w v rs) (hl : rs.length ≤ 1000) (hrc : ∀ r ∈ rs, r.rc = [] ∨ PatOk st back r) (hst : st ≠ []) (hl1 : st.length + back.length ≤ 10000) (hms : ∃ a n c, ms = .slice a n c)
    (htg : (st ++ back).head? ≠ some 46) (hpl : plainF rs (st ++ back) = []) (r : Rl) (hhit : rs.find? (fitF T rs st) = some r) (hrl : r.rc.length ≤ 100000) :
    Calls Tryd.prog 27 #[.agg #[ms, v], .pointer (some ⟨f, 0, none⟩), .string ⟨#[47]⟩, .string (nameB (st ++ back))] w (PlanH ⟨st, [needF st r], r.rc, true⟩ w) := by
  obtain ⟨am, nm, cm, rfl⟩ := hms
  have HSP := Lib.hid (fun w => special_no (nameB (st ++ back)) w (by rw [nameB_list]; exact htg))
  have HPL := Lib.hid (fun (w' : World) (hb : Below w.heap.size w w') => plain_any (.slice am nm cm) v rs (nameB (st ++ back)) w w' hv hb hl)
  unfold PlainP at HPL
  rw [nameB_list, hpl] at HPL
  have HRN := Lib.hid (fun (sb : Nat) (w' : World) (hb : Below w.heap.size w w') (hlt : sb < w'.heap.size) (q0 : w'.cell? ⟨sb, 0, none⟩ = some (.slice am nm cm)) (q1 : w'.cell? ⟨sb, 1, none⟩ = some v) (q2 : w'.cell? ⟨sb, 2, none⟩ = some (.pointer (some ⟨f, 0, none⟩))) (q3 : w'.cell? ⟨sb, 3, none⟩ = some (.string ⟨#[47]⟩)) (q4 : w'.cell? ⟨sb, 4, none⟩ = some (.string (nameB (st ++ back)))) => (show Calls Tryd.prog 53 #[.pointer (some ⟨sb, 0, none⟩)] w' fun e w'' => ∃ nv rv, e = .returned (.tuple #[.agg #[nv, rv, .string (nameB st), .bool false], .bool true]) ∧ SlS w'' nv [needF st r] ∧ SlS w'' rv r.rc ∧ Below w'.heap.size w' w'' ∧ ∀ g, rv.ownBlock = some g → g < w.heap.size from by
    have := run_pats (hF.below hb) (hm.below hb) sb (.slice am nm cm) v rs st back w hb hv hl hrc hst hl1 hlt q0 q1 q2 q3 q4 ⟨_, _, _, rfl⟩
    rw [hhit] at this
    exact this.mono (fun e w'' ⟨nv, rv, h1, h2, h3, h4, h5, _⟩ => ⟨nv, rv, h1, h2, h3, h4, h5⟩)))
  obtain ⟨a, n0, c, rfl⟩ : ∃ a n c, v = .slice a n c := by obtain ⟨a, c, rfl⟩ := hv.len; exact ⟨_, _, _, rfl⟩
  obtain ⟨TG, hTG⟩ : ∃ TG, nameB (st ++ back) = TG := ⟨_, rfl⟩
  obtain ⟨ST, hST⟩ : ∃ ST, nameB st = ST := ⟨_, rfl⟩
  rw [hTG] at HSP HPL HRN ⊢
  rw [hST] at HRN
  have HST := Lib.hid hST
  obtain ⟨W0, hW0⟩ : ∃ W0, ((w.alloc (.cells #[.slice am nm cm, .slice a n0 c] 45)).alloc (.cells #[.slice none 0 0, .slice none 0 0, .string ⟨#[]⟩, .bool false] 50)).alloc (.cells #[.slice none 0 0, .slice none 0 0, .string ⟨#[]⟩, .bool false] 50) = W0 := ⟨_, rfl⟩
  have HW0 := Lib.hid hW0
  have HRL := Lib.hid hrl
  clear hv htg hrc hpl hhit hl hW0 hTG hST hF hm hst hl1 hrl
  go_enter Tryd.func27, Tryd.ntmps27
  go_wp2_with (go_at_call 50; refine (HSP.out _).mono ?_; rintro e w1 ⟨rfl, h1⟩; obtain rfl := h1.symm; simp only [])
  go_wp2_with fail
  rw [HW0.out]
  have hB0 : Below w.heap.size w W0 := by
    rw [← HW0.out]
    exact below_trans (below_alloc _ _) (below_trans (below_alloc _ _) (below_alloc _ _))
  have hs0 : W0.heap.size = w.heap.size + 1 + 1 + 1 := by rw [← HW0.out, size_alloc, size_alloc, size_alloc]
  have z9 : W0.heap[w.heap.size + 1 + 1]? = some (.cells [.slice none 0 0, .slice none 0 0, .string ⟨#[]⟩, .bool false].toArray 50 (0, 0)) := by
    rw [← HW0.out]
    have := heap_alloc_new ((w.alloc (.cells #[.slice am nm cm, .slice a n0 c] 45)).alloc (.cells #[.slice none 0 0, .slice none 0 0, .string ⟨#[]⟩, .bool false] 50)) (.cells #[.slice none 0 0, .slice none 0 0, .string ⟨#[]⟩, .bool false] 50)
    rw [size_alloc, size_alloc] at this
    exact this
  have z8 : W0.heap[w.heap.size + 1]? = some (.cells [.slice none 0 0, .slice none 0 0, .string ⟨#[]⟩, .bool false].toArray 50 (0, 0)) := by
    rw [← HW0.out, Below.heap_alloc _ _ _ (by rw [size_alloc, size_alloc]; omega)]
    have := heap_alloc_new (w.alloc (.cells #[.slice am nm cm, .slice a n0 c] 45)) (.cells #[.slice none 0 0, .slice none 0 0, .string ⟨#[]⟩, .bool false] 50)
    rw [size_alloc] at this
    exact this
  have z4 : W0.heap[w.heap.size]? = some (.cells #[.slice am nm cm, .slice a n0 c] 45) := by
    rw [← HW0.out, Below.heap_alloc _ _ _ (by rw [size_alloc, size_alloc]; omega), Below.heap_alloc _ _ _ (by rw [size_alloc]; omega)]
    exact heap_alloc_new w _
  have HB0 := Lib.hid hB0
  have HS0 := Lib.hid hs0
  have HZ9 := Lib.hid z9
  have HZ8 := Lib.hid z8
  have HZ4 := Lib.hid z4
  clear hB0 hs0 z9 z8 z4
  refine (HPL.out _ HB0.out).mono ?_
  rintro e w1 ⟨u, rfl, h1⟩
  have H1 := Lib.hid h1.old
  obtain ⟨ua, uc, hu⟩ := (h1.rsv HB0.out).len
  have hu : u = .slice ua 0 uc := hu
  subst hu
  clear h1
  obtain ⟨b9, hb9⟩ : ∃ b9, w.heap.size + 1 + 1 = b9 := ⟨_, rfl⟩
  obtain ⟨b8, hb8⟩ : ∃ b8, w.heap.size + 1 = b8 := ⟨_, rfl⟩
  rw [hb9] at HZ9
  rw [hb8] at HZ8
  have HZ9' := Lib.hid ((H1.out.block _ (Array.getElem?_eq_some_iff.1 HZ9.out).1).trans HZ9.out)
  have HZ8' := Lib.hid ((H1.out.block _ (Array.getElem?_eq_some_iff.1 HZ8.out).1).trans HZ8.out)
  have HZ4' := Lib.hid ((H1.out.block _ (Array.getElem?_eq_some_iff.1 HZ4.out).1).trans HZ4.out)
  have HBW : Hid (Below w.heap.size w w1) := HB0.out.trans (H1.out.mono HB0.out.size)
  have hne89 : b8 ≠ b9 := by omega
  have hne98 : b9 ≠ b8 := by omega
  have hge : w.heap.size ≤ b8 ∧ w.heap.size ≤ b9 := by omega
  simp only [hb9]
  simp only [hb8]
  clear HB0 HS0 HZ9 HZ8 HZ4 H1
  go_wp2_with fail
  go_loopw [22] (fun i wr => i = .int .i64 0 ∧ wr = w1) (fun i _ => 0)
  case atStart => exact ⟨rfl, rfl⟩
  case round =>
    obtain ⟨rfl, hwr⟩ := hrel
    subst hwr
    obtain ⟨k0, k1, k2, k3, i0, i1, i2, i3⟩ := box50 HZ9'.out
    have p0 : wr.cell? ⟨w.heap.size, 0, none⟩ = some (.slice am nm cm) := cell_of (cs := [.slice am nm cm, .slice a n0 c]) HZ4'.out 0
    have p1 : wr.cell? ⟨w.heap.size, 1, none⟩ = some (.slice a n0 c) := cell_of (cs := [.slice am nm cm, .slice a n0 c]) HZ4'.out 1
    have HA9 := Lib.hid (below_alloc wr (.cells #[.slice am nm cm, .slice a n0 c, .pointer (some ⟨f, 0, none⟩), .string ⟨#[47]⟩, .string TG] 91))
    go_wp2_with (first
      | (go_at_call 53; refine (HRN.out wr.heap.size _ (HBW.out.trans (HA9.out.mono HBW.out.size)) (by rw [size_alloc]; omega) (by rw [cell_new]; rfl) (by rw [cell_new]; rfl) (by rw [cell_new]; rfl) (by rw [cell_new]; rfl) (by rw [cell_new]; rfl)).mono ?_; rintro e w5 ⟨nv, rv, rfl, hnv, hrv, h5, hrg⟩; obtain ⟨na, nn, nc, rfl⟩ := sl_form hnv; obtain ⟨ra, rn, rc, rfl⟩ := sl_form hrv; have HPF := Lib.hid (pf_mk HBW.out (below_trans HA9.out h5) hnv hrv hrg HZ9'.out HZ8'.out (.string ST)); obtain ⟨k0, k1, k2, k3, i0, i1, i2, i3⟩ := box50 HPF.out.z9; have e13 := box50 HPF.out.z13; obtain ⟨m0, m1, m2, m3, _⟩ := e13; have H95 : Hid (b9 < w5.heap.size) := Nat.lt_of_lt_of_le (Array.getElem?_eq_some_iff.1 HZ9'.out).1 (below_trans HA9.out h5).size; clear hnv hrv h5 hrg; simp only [])
      | (go_at_call 52; ((with_reducible refine (HPF.out.add (by simp)).mono ?_)); rintro e w6 ⟨v', rfl, h6⟩; have HAD := Lib.hid h6; obtain ⟨va, vn, vc, rfl⟩ := sl_form h6.n; obtain ⟨k0, k1, k2, k3, i0, i1, i2, i3⟩ := box50 h6.z9; obtain ⟨m0, m1, m2, m3, _⟩ := box50 h6.z13; clear h6; simp only []))
    have hl13 : b9 ≠ w5.heap.size := Nat.ne_of_lt H95.out
    have hl13' : w5.heap.size ≠ b9 := fun e => hl13 e.symm
    have W6E := set_of HAD.out.z9 0 (.slice va vn vc)
    obtain ⟨W6, hW6⟩ : ∃ W6, w6.setCell ⟨b9, 0, none⟩ (.slice va vn vc) = W6 := ⟨_, rfl⟩
    have W13E : W6.heap[w5.heap.size]? = some (.cells [.slice na nn nc, .slice ra rn rc, .string ST, .bool false].toArray 50 (0, 0)) := by
      rw [← hW6, Below.heap_setCell _ _ _ _ (by show w5.heap.size ≠ b9; exact hl13')]; exact HAD.out.z13
    rw [hW6] at W6E ⊢
    obtain ⟨b13, hb13⟩ : ∃ b13, w5.heap.size = b13 := ⟨_, rfl⟩
    rw [hb13] at W13E hl13 hl13'
    simp only [hb13]
    clear k0 k1 k2 k3 i0 i1 i2 i3 m0 m1 m2 m3 hb13
    obtain ⟨k0, k1, k2, k3, i0, i1, i2, i3⟩ := box50 W6E
    obtain ⟨m0, m1, m2, m3, _⟩ := box50 W13E
    have HW6 := Lib.hid hW6
    have HW6E := Lib.hid W6E
    clear hW6 W6E W13E
    go_region_held3 (fun w' => w'.cell? ⟨b13, 1, none⟩ = some (.slice ra rn rc) ∧ w'.cell? ⟨b13, 2, none⟩ = some (.string ST)) (go_keep) (fail)
    have HPH := Lib.hid (HAD.out.set hne89 hge.2)
    rw [HW6.out] at HPH
    obtain ⟨W7, hW7⟩ : ∃ W7, (((W6.setCell ⟨b9, 1, none⟩ (.slice ra rn rc)).setCell ⟨b9, 2, none⟩ (.string ST)).setCell ⟨b9, 3, none⟩ (.bool true)).drew = W7 := ⟨_, rfl⟩
    rw [hW7] at HPH ⊢
    clear k0 k1 k2 k3 i0 i1 i2 i3 m0 m1 m2 m3 hW7
    obtain ⟨k0, k1, k2, k3, i0, i1, i2, i3⟩ := box50 HPH.out.z9
    have HCL := Lib.hid (Clone_any (.slice ra rn rc) r.rc W7 HPH.out.r (by have := HRL.out; omega))
    go_wp2_with (go_at_call 54; refine HCL.out.mono ?_; rintro e w8 ⟨v2, rfl, h7⟩; obtain ⟨g9, g8, gf, gn, gr, gb⟩ := HPH.out.fin h7 hne89 hge.1 hge.2; obtain ⟨k0, k1, k2, k3, i0, i1, i2, i3⟩ := box50 g9; obtain ⟨l0, l1, l2, l3, j0, j1, j2, j3⟩ := box50 g8; obtain ⟨xa, xn, xc, rfl⟩ := sl_form h7.sls; have GF := Lib.hid gf; have GN := Lib.hid gn; have GR := Lib.hid gr; have GB := Lib.hid gb; clear h7 g9 g8 gf gn gr gb; simp only [])
    have hf := GF.out
    refine bodyPost_ret (v := .agg #[.slice va vn vc, .slice xa xn xc, .string ST, .bool true]) ?_ rfl ?_
    · obtain ⟨k0, k1, k2, k3, _⟩ := box50 hf
      simp [results, Tryd.results27, go_sem, k0, k1, k2, k3]
      try rfl
    · exact ⟨_, _, by rw [← HST.out], GN.out, GR.out, GB.out⟩
end Go.Proofs.YtjagnihkpgbjeaaDoor
