import Derived.Test.YtjagnihkpgbjeaaDoorJC
namespace Go.Proofs.YtjagnihkpgbjeaaDoor
open Go.RowKit Go.Maps Go.ChangeMaps
set_option linter.unusedVariables false
/-! run where each rule with a recipe is a pattern with one target, which matches, and one need. -/
structure PatOk (st back : Bs) (r : Rl) : Prop where
  ts : r.ts = [37 :: back]
  ns : ∃ nb, r.ns = [37 :: nb] ∧ Nm (st ++ nb) ∧ st.length + nb.length ≤ 10000
def needF (st : Bs) (r : Rl) : Bs := st ++ (r.ns.headD []).tail
def fitF (T : Tr) (rs : List Rl) (st : Bs) (r : Rl) : Bool := !r.rc.isEmpty && (decide (kdF T (needF st r) ≠ 0) || knownF rs (needF st r))
structure Fit where
  st : Bs
  ns : List Bs
  rc : List Bs
  ok : Bool
def fitOf (st : Bs) : Option Rl → Fit
  | none => ⟨[], [], [], false⟩
  | some r => ⟨st, [needF st r], r.rc, true⟩
def RunP (B : Nat) (F : Fit) (w : World) (e : Ending) (w' : World) : Prop := ∃ nv rv, e = .returned (.tuple #[.agg #[nv, rv, .string (nameB F.st), .bool false], .bool F.ok]) ∧ SlS w' nv F.ns ∧ SlS w' rv F.rc ∧ Below w.heap.size w w' ∧ (∀ g, rv.ownBlock = some g → g < B) ∧ (F.ok = false → nv = .slice none 0 0 ∧ rv = .slice none 0 0)
theorem find_drop {α : Type} (p : α → Bool) (l : List α) (k : Nat) (h : k < l.length) : (l.drop k).find? p = if p l[k] then some l[k] else (l.drop (k + 1)).find? p := by
  rw [List.drop_eq_getElem_cons h, List.find?_cons]
  cases p l[k] <;> rfl
theorem SlS.blk_lt {w : World} {v : Value} {l : List Bs} (h : SlS w v l) : ∀ g, v.ownBlock = some g → g < w.heap.size := by
  intro g hg
  rcases h with ⟨rfl, _⟩ | ⟨g', off, c, rfl, _, _, h3, _⟩
  · cases hg
  · injection hg with hg
    have hg : g' = g := hg
    omega
theorem run_fin {w w6 : World} {a0 a1 : Option Addr} {n0 c0 n1 c1 : Nat} {sv : Value} {ns rc : List Bs} {b : Nat} (hnv : SlS w6 (.slice a0 n0 c0) ns) (hrv : SlS w (.slice a1 n1 c1) rc) (hB : Below w.heap.size w w6) (hb : w.heap.size ≤ b) (hfr : ∀ g, Value.ownBlock (.slice a0 n0 c0) = some g → g ≠ b) (hz : w6.heap[b]? = some (.cells [.slice none 0 0, .slice none 0 0, .string ⟨#[]⟩, .bool false].toArray 50 (0, 0))) (W8 : World) (hW : w6.alloc (.cells #[.slice a0 n0 c0, .slice a1 n1 c1, sv, .bool false] 50) = W8) :
    W8.heap[b]? = some (.cells [.slice none 0 0, .slice none 0 0, .string ⟨#[]⟩, .bool false].toArray 50 (0, 0)) ∧
    SlS ((((W8.setCell ⟨b, 0, none⟩ (.slice a0 n0 c0)).setCell ⟨b, 1, none⟩ (.slice a1 n1 c1)).setCell ⟨b, 2, none⟩ sv).setCell ⟨b, 3, none⟩ (.bool false)) (.slice a0 n0 c0) ns ∧
    SlS ((((W8.setCell ⟨b, 0, none⟩ (.slice a0 n0 c0)).setCell ⟨b, 1, none⟩ (.slice a1 n1 c1)).setCell ⟨b, 2, none⟩ sv).setCell ⟨b, 3, none⟩ (.bool false)) (.slice a1 n1 c1) rc ∧
    Below w.heap.size w ((((W8.setCell ⟨b, 0, none⟩ (.slice a0 n0 c0)).setCell ⟨b, 1, none⟩ (.slice a1 n1 c1)).setCell ⟨b, 2, none⟩ sv).setCell ⟨b, 3, none⟩ (.bool false)) := by
  have h68 : Below w6.heap.size w6 W8 := hW ▸ below_alloc _ _
  have hB8 : Below w.heap.size w W8 := hB.trans (h68.mono hB.size)
  have hO : Only (fun j => j = b) W8 ((((W8.setCell ⟨b, 0, none⟩ (.slice a0 n0 c0)).setCell ⟨b, 1, none⟩ (.slice a1 n1 c1)).setCell ⟨b, 2, none⟩ sv).setCell ⟨b, 3, none⟩ (.bool false)) :=
    ((((Only.refl (fun j => j = b) W8).set (.inl rfl) 0 _).set (.inl rfl) 1 _).set (.inl rfl) 2 _ |>.set (.inl rfl) 3 _)
  exact ⟨(h68.block _ (Array.getElem?_eq_some_iff.1 hz).1).trans hz, (hnv.below h68).only2 hO (fun g _ hg e => hfr g hg e), (hrv.below hB8).only2 hO (fun g _ hg e => by have := hrv.blk_lt g hg; omega), below_set (below_set (below_set (below_set hB8 hb _ _) hb _ _) hb _ _) hb _ _⟩
theorem pct_pat (b : Bs) : pct (37 :: b) = true := by unfold pct; simp [Lib.indexByte]
set_option maxRecDepth 100000 in
set_option maxHeartbeats 4000000 in
theorem run_pats {w : World} {B N f : Nat} {c : Cn} {T : Tr} {F : Nat → Prop} (hF : Fs w B N f c T F) (hm : Hm w) (sb : Nat) (ms rv : Value) (rs : List Rl) (st back : Bs) (wb : World) (hwb : Below wb.heap.size wb w) (hv0 : RsV wb rv rs) (hl : rs.length ≤ 1000) (hrc : ∀ r ∈ rs, r.rc = [] ∨ PatOk st back r) (hst : st ≠ []) (hl1 : st.length + back.length ≤ 10000) (hlt : sb < w.heap.size)
    (q0 : w.cell? ⟨sb, 0, none⟩ = some ms) (q1 : w.cell? ⟨sb, 1, none⟩ = some rv) (q2 : w.cell? ⟨sb, 2, none⟩ = some (.pointer (some ⟨f, 0, none⟩))) (q3 : w.cell? ⟨sb, 3, none⟩ = some (.string ⟨#[47]⟩)) (q4 : w.cell? ⟨sb, 4, none⟩ = some (.string (nameB (st ++ back)))) (hms : ∃ a n c, ms = .slice a n c) :
    Calls Tryd.prog 53 #[.pointer (some ⟨sb, 0, none⟩)] w (RunP wb.heap.size (fitOf st (rs.find? (fitF T rs st))) w) := by
  have hv := hv0.below hwb
  have HWB := Lib.hid hwb
  obtain ⟨Q, hQ⟩ : ∃ Q, RunP wb.heap.size (fitOf st (rs.find? (fitF T rs st))) w = Q := ⟨_, rfl⟩
  have HQ : Hid (∀ e w', RunP wb.heap.size (fitOf st (rs.find? (fitF T rs st))) w e w' → Q e w') := fun e w' h => by rw [← hQ]; exact h
  rw [hQ]
  clear hQ
  obtain ⟨ma, mn, mc, rfl⟩ := hms
  have HPAT := Lib.hid (fun (w' : World) (hb : Below w.heap.size w w') (tv nv rcv : Value) (r : Rl) (hp : PatOk st back r) (h3 : Rl3 w tv nv rcv r) (b : Bool) (hbb : (decide (kdF T (needF st r) ≠ 0) || knownF rs (needF st r)) = b) => (show Calls Tryd.prog 80 #[.pointer (some ⟨sb, 0, none⟩), .agg #[tv, nv, rcv]] w' fun e w'' => ∃ nv', e = .returned (.tuple #[.agg #[nv', rcv, .string (nameB st), .bool false], .bool b]) ∧ SlS w'' nv' (if b then [needF st r] else []) ∧ Below w'.heap.size w' w'' ∧ ∀ g, nv'.ownBlock = some g → w'.heap.size ≤ g from by
    obtain ⟨nb, hn, hnm, hln⟩ := hp.ns
    obtain ⟨ts, ns, rc⟩ := r
    have e1 : ts = [37 :: back] := hp.ts
    have e2 : ns = [37 :: nb] := hn
    subst e1; subst e2
    exact pat_any (hF.below hb) (hm.below hb) sb (Nat.lt_of_lt_of_le hlt hb.size) st back nb [] rc tv nv rcv _ rv rs ((hb.cell (p := ⟨sb, 0, none⟩) hlt).trans q0) ((hb.cell (p := ⟨sb, 1, none⟩) hlt).trans q1) ((hb.cell (p := ⟨sb, 2, none⟩) hlt).trans q2) ((hb.cell (p := ⟨sb, 3, none⟩) hlt).trans q3) ((hb.cell (p := ⟨sb, 4, none⟩) hlt).trans q4) (h3.below hb) hst hl1 hln hnm (hv.below hb) hl ⟨_, _, _, rfl⟩ b hbb))
  obtain ⟨STB, hSTB⟩ : ∃ STB, nameB st = STB := ⟨_, rfl⟩
  rw [hSTB] at HPAT
  have HSTB := Lib.hid hSTB
  clear q2 q3 q4 hSTB
  obtain ⟨W, hW⟩ : ∃ W, w.alloc (.cells #[.slice none 0 0, .slice none 0 0, .string ⟨#[]⟩, .bool false] 50) = W := ⟨_, rfl⟩
  have hB : Below w.heap.size w W := hW ▸ below_alloc _ _
  have hblk : W.heap[w.heap.size]? = some (.cells [.slice none 0 0, .slice none 0 0, .string ⟨#[]⟩, .bool false].toArray 50 (0, 0)) := hW ▸ heap_alloc_new w _
  have hsz : w.heap.size < W.heap.size := by rw [← hW, size_alloc]; omega
  have HV := Lib.hid hv0
  have HS := Lib.hid (fun (w' : World) (hb : Below w.heap.size w w') => Special_any (.slice ma mn mc) rv rs ⟨#[46, 83, 85, 70, 70, 73, 88, 69, 83]⟩ w' (hv.below hb) hl)
  have HC0 := Lib.hid (fun (w' : World) (hb : Below w.heap.size w w') => (hb.cell (p := ⟨sb, 0, none⟩) hlt).trans q0)
  have HC1 := Lib.hid (fun (w' : World) (hb : Below w.heap.size w w') => (hb.cell (p := ⟨sb, 1, none⟩) hlt).trans q1)
  obtain ⟨a, c, rfl⟩ := hv.len
  obtain ⟨n, hn⟩ : ∃ n, rs.length = n := ⟨_, rfl⟩
  have HN := Lib.hid hn
  have HRC := Lib.hid hrc
  have HWW := Lib.hid hW
  have HB := Lib.hid hB
  have HBLK := Lib.hid hblk
  have HSZ := Lib.hid hsz
  rw [hn] at hl HV HS q1 HC1
  clear hv hv0 hwb hrc hn hB hblk hsz hW
  go_enter Tryd.func53, Tryd.ntmps53
  go_wp2_with fail
  rw [HWW.out]
  go_loopw [19] (fun i wr => ∃ k : Nat, k ≤ n ∧ i = .int .i64 k ∧ Hid (Below W.heap.size W wr) ∧ Hid (rs.find? (fitF T rs st) = (rs.drop k).find? (fitF T rs st))) (fun i _ => n - (intOf i).toNat)
  case atStart => exact ⟨0, Nat.zero_le _, rfl, Below.refl _ _, rfl⟩
  case round =>
    obtain ⟨k, hk, rfl, HX, HFD⟩ := hrel
    by_cases hlt : k < n
    · have hltI : (k : Int) < (n : Int) := by omega
      have h0 : (0 : Int) ≤ (k : Int) := by omega
      have hlr : k < rs.length := by rw [HN.out]; exact hlt
      obtain ⟨g, off, a0, n0, c0, a1, n1, c1, a2, n2, c2, rfl, q0, q1, q2, hr⟩ := HV.out.get2 (HWB.out.trans ((HB.out.trans (HX.out.mono HB.out.size)).mono HWB.out.size)) k hlr
      have hadd := addk3 g off k
      have HFD2 : Hid (rs.find? (fitF T rs st) = if fitF T rs st rs[k] then some rs[k] else (rs.drop (k + 1)).find? (fitF T rs st)) := HFD.out.trans (find_drop _ _ k hlr)
      rcases HRC.out _ (List.getElem_mem hlr) with hrc | hpo
      · have hn2 : n2 = 0 := by
          obtain ⟨a', c', e⟩ := hr.k.len
          rw [hrc] at e
          injection e
        subst hn2
        have HFN : Hid (rs.find? (fitF T rs st) = (rs.drop (k + 1)).find? (fitF T rs st)) := by
          rw [Hid, HFD2.out, if_neg]
          unfold fitF; rw [hrc]; simp
        have HR3 := Lib.hid hr
        clear hr hrc
        go_wp2_with fail
        exact ⟨⟨k + 1, by omega, by go_num, HX.out.trans ((below_alloc _ _).mono HX.out.size), HFN.out⟩, by simp [intOf]; omega⟩
      · by_cases hrc : rs[k].rc = []
        · have hn2 : n2 = 0 := by
            obtain ⟨a', c', e⟩ := hr.k.len
            rw [hrc] at e
            injection e
          subst hn2
          have HFN : Hid (rs.find? (fitF T rs st) = (rs.drop (k + 1)).find? (fitF T rs st)) := by
            rw [Hid, HFD2.out, if_neg]
            unfold fitF; rw [hrc]; simp
          have HR3 := Lib.hid hr
          clear hr hrc
          go_wp2_with fail
          exact ⟨⟨k + 1, by omega, by go_num, HX.out.trans ((below_alloc _ _).mono HX.out.size), HFN.out⟩, by simp [intOf]; omega⟩
        · have hn2 : 0 < n2 := by
            obtain ⟨a', c', e⟩ := hr.k.len
            have : n2 = rs[k].rc.length := by injection e
            rw [this]; exact List.length_pos_iff.2 hrc
          have hn2I : (0 : Int) < (n2 : Int) := by omega
          obtain ⟨fit, hfit⟩ : ∃ fit, (decide (kdF T (needF st rs[k]) ≠ 0) || knownF rs (needF st rs[k])) = fit := ⟨_, rfl⟩
          have HFT : Hid (fitF T rs st rs[k] = fit) := by
            unfold fitF; rw [Hid, hfit]
            cases h : rs[k].rc with
            | nil => exact absurd h hrc
            | cons => rfl
          have HR3 := Lib.hid hr
          have HPLN : Hid (isPlainF rs[k] = false) := by unfold isPlainF; rw [Hid, hpo.ts]; simp [pct_pat]
          have HPO := Lib.hid hpo
          have HFIT := Lib.hid hfit
          have HRCN := Lib.hid hrc
          have hbr : Below w.heap.size w wr := HB.out.trans (HX.out.mono HB.out.size)
          have HBR := Lib.hid hbr
          clear hr hpo hfit hrc hbr
          cases fit with
          | false =>
            have HFN : Hid (rs.find? (fitF T rs st) = (rs.drop (k + 1)).find? (fitF T rs st)) := by
              rw [Hid, HFD2.out, if_neg (by rw [HFT.out]; decide)]
            go_wp2_with (first
              | (go_at_call 79; ((with_reducible refine (isPlain_any _ _ _ rs[k] _ (HR3.out.below (HWB.out.trans ((HBR.out.trans ((below_alloc _ _).mono HBR.out.size)).mono HWB.out.size))) false HPLN.out).mono ?_)); rintro e w5 ⟨rfl, h5⟩; have e5 := (h5.block _ (by rw [size_alloc]; exact Nat.lt_succ_self _)).trans (heap_alloc_new wr _); have x0 : w5.cell? ⟨wr.heap.size, 0, none⟩ = some (.slice a0 n0 c0) := cell_of (cs := [.slice a0 n0 c0, .slice a1 n1 c1, .slice a2 n2 c2]) e5 0; have x1 : w5.cell? ⟨wr.heap.size, 1, none⟩ = some (.slice a1 n1 c1) := cell_of (cs := [.slice a0 n0 c0, .slice a1 n1 c1, .slice a2 n2 c2]) e5 1; have x2 : w5.cell? ⟨wr.heap.size, 2, none⟩ = some (.slice a2 n2 c2) := cell_of (cs := [.slice a0 n0 c0, .slice a1 n1 c1, .slice a2 n2 c2]) e5 2; have H5 : Hid (Below wr.heap.size wr w5) := below_trans (below_alloc _ _) h5; clear h5 e5; simp only [])
              | (go_at_call 80; ((with_reducible refine (HPAT.out _ (HBR.out.trans (H5.out.mono HBR.out.size)) _ _ _ rs[k] HPO.out (HR3.out.below HWB.out) false HFIT.out).mono ?_)); rintro e w6 ⟨nv', rfl, hnv, h6, hfr⟩; obtain ⟨va, vn, vc, rfl⟩ := sl_form hnv; have H6 : Hid (Below wr.heap.size wr w6) := below_trans H5.out h6; clear hnv h6 hfr; simp only []))
            exact ⟨⟨k + 1, by omega, by go_num, HX.out.trans ((below_trans H6.out (below_alloc _ _)).mono HX.out.size), HFN.out⟩, by simp [intOf]; omega⟩
          | true =>
            have HFN : Hid (rs.find? (fitF T rs st) = some rs[k]) := by
              rw [Hid, HFD2.out, if_pos HFT.out]
            go_wp2_with (first
              | (go_at_call 79; ((with_reducible refine (isPlain_any _ _ _ rs[k] _ (HR3.out.below (HWB.out.trans ((HBR.out.trans ((below_alloc _ _).mono HBR.out.size)).mono HWB.out.size))) false HPLN.out).mono ?_)); rintro e w5 ⟨rfl, h5⟩; have e5 := (h5.block _ (by rw [size_alloc]; exact Nat.lt_succ_self _)).trans (heap_alloc_new wr _); have x0 : w5.cell? ⟨wr.heap.size, 0, none⟩ = some (.slice a0 n0 c0) := cell_of (cs := [.slice a0 n0 c0, .slice a1 n1 c1, .slice a2 n2 c2]) e5 0; have x1 : w5.cell? ⟨wr.heap.size, 1, none⟩ = some (.slice a1 n1 c1) := cell_of (cs := [.slice a0 n0 c0, .slice a1 n1 c1, .slice a2 n2 c2]) e5 1; have x2 : w5.cell? ⟨wr.heap.size, 2, none⟩ = some (.slice a2 n2 c2) := cell_of (cs := [.slice a0 n0 c0, .slice a1 n1 c1, .slice a2 n2 c2]) e5 2; have H5 : Hid (Below wr.heap.size wr w5) := below_trans (below_alloc _ _) h5; clear h5 e5; simp only [])
              | (go_at_call 80; ((with_reducible refine (HPAT.out _ (HBR.out.trans (H5.out.mono HBR.out.size)) _ _ _ rs[k] HPO.out (HR3.out.below HWB.out) true HFIT.out).mono ?_)); rintro e w6 ⟨nv', rfl, hnv, h6, hfr⟩; obtain ⟨va, vn, vc, rfl⟩ := sl_form hnv; have H6 : Hid (Below wr.heap.size wr w6) := below_trans H5.out h6; have hz6 := ((HX.out.trans (H6.out.mono HX.out.size)).block _ HSZ.out).trans HBLK.out; have hlt5 : w.heap.size < w5.heap.size := Nat.lt_of_lt_of_le HSZ.out (Nat.le_trans HX.out.size H5.out.size); obtain ⟨e8, f1, f2, f3⟩ := run_fin (sv := .string STB) hnv (HR3.out.k.below HWB.out) (HBR.out.trans (H6.out.mono HBR.out.size)) (Nat.le_refl _) (fun g hg e => absurd (hfr g hg) (e ▸ Nat.not_le_of_lt hlt5)) hz6 _ rfl; obtain ⟨z0, z1, z2, z3, y0, y1, y2, y3⟩ := box50 e8; have HFX := Lib.hid (fin50 (u0 := .slice va vn vc) (u1 := .slice a2 n2 c2) (u2 := .string STB) (u3 := .bool false) e8); have HNV := Lib.hid f1; have HRV := Lib.hid f2; have HOL := Lib.hid f3; clear hz6 e8 f1 f2 f3 hnv h6 hfr hlt5; simp only []))
            refine bodyPost_ret (v := .tuple #[.agg #[.slice va vn vc, .slice a2 n2 c2, .string STB, .bool false], .bool true]) ?_ rfl ?_
            · obtain ⟨k0, k1, k2, k3, _⟩ := box50 HFX.out
              simp [results, Tryd.results53, go_sem, k0, k1, k2, k3]
              try rfl
            · refine HQ.out _ _ ?_
              rw [HFN.out]
              exact ⟨_, _, by rw [← HSTB.out]; rfl, HNV.out, HRV.out, HOL.out, HR3.out.k.blk_lt, fun h => by cases h⟩
    · have hltI : ¬ (k : Int) < (n : Int) := by omega
      have HFE : Hid (rs.find? (fitF T rs st) = none) := by rw [Hid, HFD.out, List.drop_of_length_le (by rw [HN.out]; omega)]; rfl
      have p0 := HC0.out _ (HB.out.trans (HX.out.mono HB.out.size))
      have p1 := HC1.out _ (HB.out.trans (HX.out.mono HB.out.size))
      go_wp2_with (go_at_call 81; refine (HS.out _ (HB.out.trans (HX.out.mono HB.out.size))).mono ?_; rintro e w1 ⟨u, rfl, h1⟩; have H1 := Lib.hid (HB.out.trans ((below_trans HX.out h1.old).mono HB.out.size)); have HBX := Lib.hid (((below_trans HX.out h1.old).block _ HSZ.out).trans HBLK.out); obtain ⟨ua, un, uc, rfl⟩ := sl_form h1.sls; clear h1; have p0 := HC0.out _ H1.out; have p1 := HC1.out _ H1.out; simp only [])
      go_loopw [52] (fun i wr => ∃ k : Nat, k ≤ n ∧ i = .int .i64 k ∧ Hid (Below w1.heap.size w1 wr)) (fun i _ => n - (intOf i).toNat)
      case atStart => exact ⟨0, Nat.zero_le _, rfl, Below.refl _ _⟩
      case round =>
        obtain ⟨k, hk, rfl, HX⟩ := hrel
        by_cases hlt : k < n
        · have hltI : (k : Int) < (n : Int) := by omega
          have h0 : (0 : Int) ≤ (k : Int) := by omega
          have hlr : k < rs.length := by rw [HN.out]; exact hlt
          obtain ⟨g, off, a0, n0, c0, a1, n1, c1, a2, n2, c2, rfl, q0, q1, q2, hr⟩ := HV.out.get2 (HWB.out.trans ((H1.out.trans (HX.out.mono H1.out.size)).mono HWB.out.size)) k hlr
          have hadd := addk3 g off k
          rcases HRC.out _ (List.getElem_mem hlr) with hrc | hpo
          · have hn2 : n2 = 0 := by
              obtain ⟨a', c', e⟩ := hr.k.len
              rw [hrc] at e
              injection e
            subst hn2
            have HR3 := Lib.hid hr
            clear hr
            go_wp2_with fail
            exact ⟨⟨k + 1, by omega, by go_num, HX.out.trans ((below_alloc _ _).mono HX.out.size)⟩, by simp [intOf]; omega⟩
          · have hn1 : n1 = 1 := by
              obtain ⟨nb, hn, _⟩ := hpo.ns
              obtain ⟨a', c', e⟩ := hr.n.len
              rw [hn] at e
              injection e
            subst hn1
            have HR3 := Lib.hid hr
            clear hr hpo
            by_cases h2 : n2 = 0
            · subst h2
              go_wp2_with fail
              exact ⟨⟨k + 1, by omega, by go_num, HX.out.trans ((below_alloc _ _).mono HX.out.size)⟩, by simp [intOf]; omega⟩
            · have hn2I : (0 : Int) < (n2 : Int) := by omega
              have hn2 : 0 < n2 := by omega
              go_wp2_with fail
              exact ⟨⟨k + 1, by omega, by go_num, HX.out.trans ((below_alloc _ _).mono HX.out.size)⟩, by simp [intOf]; omega⟩
        · have hltI : ¬ (k : Int) < (n : Int) := by omega
          have hbx := (HX.out.block _ (World.block_lt_of_cell? _ _ (cell_of HBX.out 0))).trans HBX.out
          obtain ⟨z0, z1, z2, z3, y0, y1, y2, y3⟩ := box50 hbx
          have HFX := Lib.hid (fin50 (u0 := .slice none 0 0) (u1 := .slice none 0 0) (u2 := .string ⟨#[]⟩) (u3 := .bool false) hbx)
          have HOL : Hid (Below w.heap.size w wr) := H1.out.trans (HX.out.mono H1.out.size)
          clear hbx
          go_wp2_with fail
          have hf := HFX.out
          refine bodyPost_ret (v := .tuple #[.agg #[.slice none 0 0, .slice none 0 0, .string ⟨#[]⟩, .bool false], .bool false]) ?_ rfl ?_
          · obtain ⟨k0, k1, k2, k3, _⟩ := box50 hf
            simp [results, Tryd.results53, go_sem, k0, k1, k2, k3]
            try rfl
          · refine HQ.out _ _ ?_
            have hnone : rs.find? (fitF T rs st) = none := by rw [HFE.out]
            rw [hnone]
            exact ⟨_, _, rfl, .inl ⟨rfl, rfl⟩, .inl ⟨rfl, rfl⟩, below_set (below_set (below_set (below_set HOL.out (Nat.le_refl _) _ _) (Nat.le_refl _) _ _) (Nat.le_refl _) _ _) (Nat.le_refl _) _ _, fun g hg => (by cases hg), fun _ => ⟨rfl, rfl⟩⟩
end Go.Proofs.YtjagnihkpgbjeaaDoor
