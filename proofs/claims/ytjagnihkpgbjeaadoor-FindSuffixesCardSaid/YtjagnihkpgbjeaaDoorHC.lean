import Derived.Test.YtjagnihkpgbjeaaDoorHB
import Derived.Deep.RegionHeld3
import Derived.Deep.QuietTactic
import Derived.IntWalk
namespace Go.Proofs.YtjagnihkpgbjeaaDoor
open Go.RowKit Go.Maps Go.ChangeMaps
set_option linter.unusedVariables false
def SortP (wI w : World) (f wb mb : Nat) (am : Option Addr) (nm cm : Nat) (ar : Option Addr) (nr cr : Nat) (ov : Value) (er : Int) (s' : GS) (e : Ending) (w' : World) : Prop :=
  e = .returned (.int .i64 er) ∧ ∃ ov', WA wI w' f wb mb am nm cm ar nr cr ov' s' ∧ Rw wb mb w w' ov ov'
abbrev GG (rs : List Rl) : Bs → Pl := fun t => planL (plainF rs t)
/-- The loop of sort: what is still to be done from k on. -/
structure SL (wI w wr : World) (f wb mb : Nat) (am : Option Addr) (nm cm : Nat) (ar : Option Addr) (nr cr : Nat) (ov : Value) (rs : List Rl) (T : Tr) (fuel : Nat) (ts : List Bs) (er : Int) (sf : GS) (k : Nat) : Prop where
  ex : ∃ fk s ovk, fk ≤ fuel ∧ sortF (GG rs) (thF T) fk (ts.drop k) s = some (er, sf) ∧ WA wI wr f wb mb am nm cm ar nr cr ovk s ∧ Rw wb mb w wr ov ovk
/-- Behind the call of Plan: the plan's box at b7. -/
structure ZB (wr wz : World) (b7 : Nat) (nv rv : Value) (ns : List Bs) (rule : Bool) : Prop where
  blk : wz.heap[b7]? = some (.cells [nv, rv, .string ⟨#[]⟩, .bool rule].toArray 50 (0, 0))
  old : Below wr.heap.size wr wz
  ns : SlS wz nv ns
  ge : wr.heap.size ≤ b7
  sep : ∀ g, nv.ownBlock = some g → wr.heap.size ≤ g
theorem ZB.below {wr wz wy : World} {b7 : Nat} {nv rv : Value} {ns : List Bs} {rule : Bool} (h : ZB wr wz b7 nv rv ns rule) (hb : Below wz.heap.size wz wy) : ZB wr wy b7 nv rv ns rule :=
  ⟨(hb.block _ (Array.getElem?_eq_some_iff.1 h.blk).1).trans h.blk, below_trans h.old hb, h.ns.below hb, h.ge, h.sep⟩
theorem zb_one {wr wq : World} {p : Pl} {na ra : Option Addr} {nn nc rn rc : Nat} (hbq : Below wr.drew.heap.size wr.drew wq) (hnv : SlS wq (.slice na nn nc) p.ns) (hnb : ∀ g, Value.ownBlock (.slice na nn nc) = some g → wr.drew.heap.size ≤ g) :
    ZB wr (wq.alloc (.cells #[.slice na nn nc, .slice ra rn rc, .string ⟨#[]⟩, .bool p.rule] 50)) wq.heap.size (.slice na nn nc) (.slice ra rn rc) p.ns p.rule :=
  ⟨heap_alloc_new wq _, below_trans (Below.refl _ wr).drew (below_trans hbq (below_alloc _ _)), hnv.below (below_alloc _ _), hbq.size, hnb⟩
theorem zb_two {wr wq : World} {p : Pl} {na ra : Option Addr} {nn nc rn rc : Nat} (hbq : Below (wr.drew.alloc (.cells #[.slice none 0 0, .slice none 0 0, .string ⟨#[]⟩, .bool false] 50)).heap.size (wr.drew.alloc (.cells #[.slice none 0 0, .slice none 0 0, .string ⟨#[]⟩, .bool false] 50)) wq) (hnv : SlS wq (.slice na nn nc) p.ns)
    (hnb : ∀ g, Value.ownBlock (.slice na nn nc) = some g → (wr.drew.alloc (.cells #[.slice none 0 0, .slice none 0 0, .string ⟨#[]⟩, .bool false] 50)).heap.size ≤ g) :
    ZB wr ((((wq.setCell ⟨wr.heap.size, 0, none⟩ (.slice na nn nc)).setCell ⟨wr.heap.size, 1, none⟩ (.slice ra rn rc)).setCell ⟨wr.heap.size, 2, none⟩ (.string ⟨#[]⟩)).setCell ⟨wr.heap.size, 3, none⟩ (.bool p.rule)) wr.heap.size (.slice na nn nc) (.slice ra rn rc) p.ns p.rule := by
  have hs : (wr.drew.alloc (.cells #[.slice none 0 0, .slice none 0 0, .string ⟨#[]⟩, .bool false] 50)).heap.size = wr.heap.size + 1 := size_alloc _ _
  have hb := (hbq.block wr.heap.size (by rw [hs]; omega)).trans (heap_alloc_new wr.drew _)
  have ho : Only (fun j => j = wr.heap.size) wq ((((wq.setCell ⟨wr.heap.size, 0, none⟩ (.slice na nn nc)).setCell ⟨wr.heap.size, 1, none⟩ (.slice ra rn rc)).setCell ⟨wr.heap.size, 2, none⟩ (.string ⟨#[]⟩)).setCell ⟨wr.heap.size, 3, none⟩ (.bool p.rule)) :=
    ((((Only.refl (fun j => j = wr.heap.size) wq).set (.inl rfl) 0 _).set (.inl rfl) 1 _).set (.inl rfl) 2 _).set (.inl rfl) 3 _
  have hB : Below wr.heap.size wr wq := below_trans (Below.refl _ wr).drew (below_trans (below_alloc _ _) hbq)
  refine ⟨fin50 hb _ _ _ _, below_set (below_set (below_set (below_set hB (Nat.le_refl _) _ _) (Nat.le_refl _) _ _) (Nat.le_refl _) _ _) (Nat.le_refl _) _ _, hnv.only2 ho (fun g _ hg e => ?_), Nat.le_refl _, fun g hg => ?_⟩
  · have := hnb g hg; omega
  · have := hnb g hg; omega
set_option maxRecDepth 100000 in
set_option maxHeartbeats 8000000 in
theorem sort_step {wI : World} {f : Nat} {T : Tr} {rs : List Rl} {am ar : Option Addr} {nm cm nr cr : Nat} (C : GCtx wI f T rs (.slice ar nr cr)) (wb mb fuel : Nat)
    (IH : ∀ fk, fk < fuel → ∀ (ts : List Bs) (tv : Value) (s : GS) (er : Int) (sf : GS) (w : World) (ov : Value), sortF (GG rs) (thF T) fk ts s = some (er, sf) → WA wI w f wb mb am nm cm ar nr cr ov s → (∀ w', Only (SS wb mb ov) w w' → SlS w' tv ts) → ts.length ≤ 200000 →
      Calls Tryd.prog 56 #[.pointer (some ⟨wb, 0, none⟩), tv] w (SortP wI w f wb mb am nm cm ar nr cr ov er sf))
    (ts : List Bs) (tv : Value) (s : GS) (er : Int) (sf : GS) (w : World) (ov : Value) (hsort : sortF (GG rs) (thF T) fuel ts s = some (er, sf)) (hW : WA wI w f wb mb am nm cm ar nr cr ov s) (ht : ∀ w', Only (SS wb mb ov) w w' → SlS w' tv ts) (hl : ts.length ≤ 200000) :
    Calls Tryd.prog 56 #[.pointer (some ⟨wb, 0, none⟩), tv] w (SortP wI w f wb mb am nm cm ar nr cr ov er sf) := by
  have HC := Lib.hid C
  have HIH := Lib.hid IH
  have HT := Lib.hid ht
  have HSL : Hid (SL wI w w f wb mb am nm cm ar nr cr ov rs T fuel ts er sf 0) := ⟨fuel, s, ov, Nat.le_refl _, hsort, hW, Rw.refl _ _ _ _⟩
  obtain ⟨a, d, rfl⟩ := (ht w (Only.refl _ _)).len
  obtain ⟨n, hn⟩ : ∃ n, ts.length = n := ⟨_, rfl⟩
  rw [hn] at hl HT ⊢
  have HN := Lib.hid hn
  obtain ⟨Q, hQ⟩ : ∃ Q, SortP wI w f wb mb am nm cm ar nr cr ov er sf = Q := ⟨_, rfl⟩
  rw [hQ]
  have HQ := Lib.hid hQ
  clear C IH ht hsort hW hn hQ
  go_enter Tryd.func56, Tryd.ntmps56
  go_wp2_with fail
  refine wp_scope_straight ?_
  go_wp2_with fail
  refine wp_label ?_
  go_wp2_with fail
  go_loopw [11] (fun i wr => ∃ k : Nat, k ≤ n ∧ i = .int .i64 k ∧ Hid (SL wI w wr f wb mb am nm cm ar nr cr ov rs T fuel ts er sf k)) (fun i _ => n - (intOf i).toNat)
  case atStart => exact ⟨0, Nat.zero_le _, rfl, HSL.out⟩
  case round =>
    clear HSL
    obtain ⟨k, hk, rfl, HX⟩ := hrel
    by_cases hlt : k < n
    · have hltI : (k : Int) < (n : Int) := by omega
      have h0 : (0 : Int) ≤ (k : Int) := by omega
      have hlr : k < ts.length := by rw [HN.out]; exact hlt
      obtain ⟨fk, s1, ov1, hfk, hso, hwa, hrw⟩ := HX.out.ex
      rw [List.drop_eq_getElem_cons hlr] at hso
      obtain ⟨g, off, rfl, _, hc⟩ := strs_sl (HT.out _ hrw.oth) (by omega)
      have hck := hc k hlr
      have hadd := addk g off k
      clear hc
      rw [show encStr ts[k] = .string (nameB ts[k]) from rfl] at hck
      obtain ⟨t, htt⟩ : ∃ t, ts[k] = t := ⟨_, rfl⟩
      rw [htt] at hck hso
      obtain ⟨hok, m, rfl, hways⟩ := sortF_cons hso
      obtain ⟨hnm, hdot⟩ := okB_nm hok
      have hdl : (nameB t).data.toList = t := by unfold nameB; simp
      have hlk := hwa.map.look (nameB t) (by have := hnm.le; unfold nameB maxLen; simp [ByteArray.size]; omega)
      rw [hdl] at hlk
      obtain ⟨q0, q1, q2, q3, q4, q5, q6, q7, u⟩ := box100 hwa.blk
      have HNM := Lib.hid hnm
      have HDOT := Lib.hid hdot
      have HDL := Lib.hid hdl
      have HWA := Lib.hid hwa
      have HRW := Lib.hid hrw
      obtain ⟨tb, htb⟩ : ∃ tb, nameB t = tb := ⟨_, rfl⟩
      rw [htb] at hck hlk HDL
      have HTB := Lib.hid htb
      obtain ⟨x, hx⟩ : ∃ x, s1.st t = x := ⟨_, rfl⟩
      rw [hx] at hlk hways
      have HXX := Lib.hid hx
      clear hso hok hnm hdot hdl hwa hrw htt htb hx
      rcases hways with ⟨hx2, hnx⟩ | ⟨hx2, hx1, hr⟩ | ⟨hx2, hx1, hrc, hnc, hrest⟩
      · subst hx2
        have HNX := Lib.hid hnx
        clear hnx u q0 q1 q2 q3 q5 q6 q7
        go_wp2_with fail
        exact ⟨⟨k + 1, by omega, by go_num, ⟨⟨m, s1, ov1, by omega, HNX.out, HWA.out, HRW.out⟩⟩⟩, by simp [intOf]; omega⟩
      · subst hx1
        have HR := Lib.hid hr
        clear hr hx2 u q0 q1 q2 q3 q5 q6 q7
        go_wp2_with fail
        rw [← HQ.out]
        have hr := HR.out
        injection hr with e1 e2
        subst e1; subst e2
        exact ⟨rfl, _, HWA.out, HRW.out⟩
      · have hb2 : (x == 2) = false := by simpa using hx2
        have hb1 : (x == 1) = false := by simpa using hx1
        have hb3 : ((s1.reached : Int) == 1000) = false := by simp; omega
        have hb4 : ((s1.nested : Int) == 200) = false := by simp; omega
        have HREST := Lib.hid hrest
        clear hrest
        have hlt0 : wb < wr.heap.size := World.block_lt_of_cell? _ _ q0
        have HCC : Hid (∀ w' : World, Below wr.heap.size wr w' → w'.cell? ⟨wb, 0, none⟩ = some (.slice am nm cm) ∧ w'.cell? ⟨wb, 1, none⟩ = some (.slice ar nr cr) ∧ w'.cell? ⟨wb, 2, none⟩ = some (.pointer (some ⟨f, 0, none⟩)) ∧ w'.cell? ⟨wb, 3, none⟩ = some (.string ⟨#[47]⟩)) := fun w' hb =>
          ⟨(hb.cell (p := ⟨wb, 0, none⟩) hlt0).trans q0, (hb.cell (p := ⟨wb, 1, none⟩) hlt0).trans q1, (hb.cell (p := ⟨wb, 2, none⟩) hlt0).trans q2, (hb.cell (p := ⟨wb, 3, none⟩) hlt0).trans q3⟩
        have HPLAN : Hid (∀ w' : World, Below wr.heap.size wr w' → Calls Tryd.prog 27 #[.agg #[.slice am nm cm, .slice ar nr cr], .pointer (some ⟨f, 0, none⟩), .string ⟨#[47]⟩, .string tb] w' (PlanP (GG rs t) w')) := fun w' hb => by
          have := Plan_plain f ⟨#[47]⟩ tb (.slice am nm cm) (.slice ar nr cr) rs w' (HC.out.rsv.below (HWA.out.old.trans (hb.mono HWA.out.old.size))) HC.out.len HC.out.few (by rw [HDL.out]; exact HDOT.out) ⟨_, _, _, rfl⟩ (.inr HC.out.norc)
          rw [HDL.out] at this
          exact this
        clear q7
        go_wp2_with fail
        go_region_held3 (fun w' => w'.cell? ⟨wb, 0, none⟩ = some (.slice am nm cm) ∧ w'.cell? ⟨wb, 1, none⟩ = some (.slice ar nr cr) ∧ w'.cell? ⟨wb, 2, none⟩ = some (.pointer (some ⟨f, 0, none⟩)) ∧ w'.cell? ⟨wb, 3, none⟩ = some (.string ⟨#[47]⟩)) (first | exact HCC.out _ (Below.refl _ _).drew | exact HCC.out _ (below_trans (Below.refl _ wr).drew hbq) | exact HCC.out _ (below_trans (Below.refl _ wr).drew (below_alloc _ _)) | exact HCC.out _ (below_trans (Below.refl _ wr).drew (below_trans hbq (below_alloc _ _))) | exact HCC.out _ (below_trans (Below.refl _ wr).drew (below_trans (below_alloc _ _) hbq)) | exact HCC.out _ (below_set (below_set (below_set (below_set (below_trans (Below.refl _ wr).drew (below_trans (below_alloc _ _) hbq)) (Nat.le_refl _) _ _) (Nat.le_refl _) _ _) (Nat.le_refl _) _ _) (Nat.le_refl _) _ _)) (first
          | (go_at_call 27; refine (HPLAN.out _ (Below.refl _ wr).drew).mono ?_; rintro e wq ⟨nv, rv, rfl, hnv, hrv, hbq, hnb⟩; obtain ⟨na, nn, nc, rfl⟩ := sl_form hnv; obtain ⟨ra, rn, rc, rfl⟩ := sl_form hrv)
          | (go_at_call 27; refine (HPLAN.out _ (below_trans (Below.refl _ wr).drew (below_alloc _ _))).mono ?_; rintro e wq ⟨nv, rv, rfl, hnv, hrv, hbq, hnb⟩; obtain ⟨na, nn, nc, rfl⟩ := sl_form hnv; obtain ⟨ra, rn, rc, rfl⟩ := sl_form hrv; obtain ⟨z0, z1, z2, z3, y0, y1, y2, y3⟩ := box50 (w := wq) (a := wr.heap.size) ((hbq.block _ (by rw [size_alloc]; exact Nat.lt_succ_self _)).trans (heap_alloc_new wr.drew _))))
        · have HZ := Lib.hid (zb_one hbq hnv hnb (ra := ra) (rn := rn) (rc := rc) (p := GG rs t))
          clear hbq hnv hnb hrv
          generalize wq.alloc (.cells #[.slice na nn nc, .slice ra rn rc, .string ⟨#[]⟩, .bool (GG rs t).rule] 50) = wz at HZ ⊢
          generalize wq.heap.size = b7 at HZ ⊢
          clear HPLAN HCC hlk q0 q1 q2 q3 q4 q5 q6
          have hrI : (s1.reached : Int) < 1000 := by omega
          have hnI : (s1.nested : Int) < 200 := by omega
          have HWZ := Lib.hid (HWA.out.below HZ.out.old)
          have HRZ := Lib.hid (HRW.out.below HZ.out.old)
          have HPNL : Hid ((GG rs t).ns.length ≤ 200000) := by
            have := planL_ns (plainF rs t) ⟨[], [], false⟩ (fun r hr => HC.out.few r (List.mem_filter.1 hr).1)
            have e2 := plain_len rs t
            have e3 := HC.out.len
            refine Nat.le_trans this ?_
            show 0 + _ ≤ _
            omega
          have HTL : Hid (tb.size ≤ maxLen) := by
            rw [← HTB.out, Hid]
            have := HNM.out.le
            unfold nameB maxLen; simp [ByteArray.size]; omega
          have HTH := Lib.hid (fun (b : Bool) (hb : thF T t = b) => by
            obtain ⟨B0, N0, c0, F, hF⟩ := HC.out.fs
            obtain ⟨p0, p1, p2, p3, _⟩ := box100 HWZ.out.blk
            have := thereG_any (hF.below HWZ.out.old) HNM.out b hb wb HWZ.out.lts.1 p2 p3
            rw [HTB.out] at this
            exact this)
          obtain ⟨z0, z1, z2, z3, _⟩ := box50 HZ.out.blk
          rcases HREST.out with ⟨hr1, ht1, hres⟩ | ⟨hor, e, s2, hs2, hres⟩
          · rw [show (GG rs t).rule = false from hr1] at z3
            have HT1 := Lib.hid (HTH.out false ht1)
            have HR := Lib.hid hres
            clear hr1 ht1 hres
            go_wp2_with (go_at_call 83; refine HT1.out.mono ?_; rintro e w5 ⟨rfl, h5⟩; have H5 := Lib.hid h5; clear h5; simp only [])
            rw [← HQ.out]
            have hr := HR.out
            injection hr with e1 e2
            subst e1; subst e2
            exact ⟨rfl, _, HWZ.out.below H5.out, HRZ.out.below H5.out⟩
          · have HS2 := Lib.hid hs2
            clear hs2
            obtain ⟨nn9, D9, hnn9, hown9, hg9⟩ := HWZ.out.map
            have hkey := Go.WideMaps.keyOf_string_mk (P := Tryd.prog) Tryd.underlying9 (s := tb) HTL.out
            have hval1 : plainElem (H := Unit) Tryd.prog 3 (.int .i64 1) = some (.lit (.int .i64 1), []) := plainElem_int Tryd.underlying3 (by decide)
            have hval2 : plainElem (H := Unit) Tryd.prog 3 (.int .i64 2) = some (.lit (.int .i64 2), []) := plainElem_int Tryd.underlying3 (by decide)
            have hn91 : nn9 < maxLen := by have := HWZ.out.rb; unfold maxLen; omega
            rw [HDL.out] at hkey
            have HG9 := Lib.hid hg9
            have HD9 : Hid (IsMap D9) := hown9.isMap
            have HNN9 := Lib.hid hnn9
            have HV1 := Lib.hid hval1
            have HV2 := Lib.hid hval2
            have HKEY := Lib.hid hkey
            have HOWN9 : Hid (∀ w' : World, Below wz.heap.size wz w' → w'.ownsMap Tryd.prog 9 (plainElem (H := Unit) Tryd.prog 3) mb nn9 D9) := fun w' hb => by
              obtain ⟨es, clock, h2, F, hs, hD⟩ := hown9
              exact ⟨es, clock, (hb.block mb HWZ.out.map.lt).trans h2, F, hs, hD⟩
            have HN91 := Lib.hid hn91
            have hlw := HWA.out.lts
            have hb7w : b7 ≠ wb := by have := HZ.out.ge; have := hlw.1; omega
            have hb7m : b7 ≠ mb := by have := HZ.out.ge; have := hlw.2.1; omega
            have hwb7 : wb ≠ b7 := fun e => hb7w e.symm
            have HLW := Lib.hid hlw
            have HBM := Lib.hid hb7m
            clear hg9 hnn9 hval1 hval2 hkey hown9 hn91 hlw hb7m
            cases hr : (GG rs t).rule with
            | false =>
              rw [hr] at z3
              have HT1 := Lib.hid (HTH.out true (hor.resolve_left (by rw [show (planL (plainF rs t)).rule = false from hr]; simp)))
              clear hor hr
              go_wp2_with (first
                | (go_at_call 83; refine HT1.out.mono ?_; rintro e9 w5 ⟨rfl, h5⟩; have HB5 := Lib.hid h5; have HWY := Lib.hid (HWZ.out.below h5); have HRY := Lib.hid (HRZ.out.below h5); have HZY := Lib.hid (HZ.out.below h5); have y4 : w5.cell? ⟨wb, 4, none⟩ = some (.map (some mb)) := cell_of HWY.out.blk 4; clear h5; simp only [])
                | (at_mapUpdate; refine wpList_mapUpdate_own _ rfl _ _ _ 98 rfl 9 3 keyedS Tryd.underlying98 _ mb nn9 D9 rfl (HOWN9.out _ HB5.out) HN91.out _ _ (.string t) rfl rfl HKEY.out (.lit (.int .i64 1)) [] HV1.out ?_; intro w6 h6 g6; obtain ⟨b6, WA6, RW6⟩ := HWY.out.opened t HNN9.out HD9.out HG9.out h6 g6 hrc; obtain ⟨v0, v1, v2, v3, v4, v5, v6, v7, vu⟩ := box100 b6; have vu5 := vu 5; have vu6 := vu 6; obtain ⟨x0, _, _, _, _, _, _, _⟩ := box50 ((g6.block b7 (Array.getElem?_eq_some_iff.1 HZY.out.blk).1 (by simpa using HBM.out)).trans HZY.out.blk); have HNS6 := Lib.hid (HZY.out.ns.only2 (Only.of_grown (S := fun j => j = mb) g6 (fun k e => by cases e; rfl)) (fun g _ hg e => by have := HZY.out.sep g hg; have := HLW.out.2.1; omega)); have HWA6 := Lib.hid WA6; have HRW6 := Lib.hid RW6; clear h6 g6 b6 WA6 RW6 v0 v1 v2 v3 v4 v7 vu))
              have HREC := Lib.hid (HIH.out m (by omega) (GG rs t).ns (.slice na nn nc) (openS s1 t) e s2 _ ov1 HS2.out HWA6.out (fun w' ho => (HNS6.out.only2 (((Only.refl (fun j => j = wb) w6).set (.inl rfl) 5 _).set (.inl rfl) 6 _) (fun g _ hg e => by have := HZY.out.sep g hg; have := HLW.out.1; omega)).only2 ho (fun g _ hg e => by
                have h3 := HZY.out.sep g hg
                rcases e with e | e | e
                · have := HLW.out.1; omega
                · have := HLW.out.2.1; omega
                · have := HLW.out.2.2 g e; omega)) HPNL.out)
              refine HREC.out.mono ?_
              rintro e9 w8 ⟨rfl, ov2, hwa8, hrw8⟩
              have HWA8 := Lib.hid hwa8
              have HRW8 := Lib.hid hrw8
              clear hwa8 hrw8 HREC vu5 vu6 v5 v6 x0
              simp only []
              rcases hres with ⟨he0, hr⟩ | ⟨he0, hnz, hnx⟩
              · have hen : (e != 0) = true := by simpa using he0
                have HR := Lib.hid hr
                clear hr he0
                go_wp2_with fail
                rw [← HQ.out]
                have hr := HR.out
                injection hr with e1 e2
                subst e1; subst e2
                exact ⟨rfl, _, HWA8.out, HRY.out.trans (HRW6.out.trans HRW8.out)⟩
              · subst he0
                obtain ⟨q, hq⟩ : ∃ q, s2.nested = q + 1 := ⟨s2.nested - 1, by omega⟩
                obtain ⟨nn10, D10, hnn10, hown10, hg10⟩ := HWA8.out.map
                have hblk8 := HWA8.out.blk
                unfold wkC at hblk8
                rw [hq] at hblk8
                obtain ⟨p0, p1, p2, p3, p4, p5, p6, p7, pu⟩ := box100 hblk8
                have p6 : w8.cell? ⟨wb, 6, none⟩ = some (.int .i64 ((q : Int) + 1)) := p6
                have pu6 := pu 6
                have hqb : (q : Int) ≤ 1000 := by have := HWA8.out.nr; have := HWA8.out.rb; omega
                have hsub : IntKind.i64.wrap ((q : Int) + 1 - 1) = (q : Int) := by rw [show (q : Int) + 1 - 1 = (q : Int) by omega]; exact IntWalk.i64_in _ (by omega)
                have HQQ := Lib.hid hq
                have hne8 := HWA8.out.ne
                have HOWN10 := Lib.hid (hown10.setCell (a := ⟨wb, 6, none⟩) hne8 (.int .i64 (q : Int)))
                have HD10 : Hid (IsMap D10) := hown10.isMap
                have HG10 := Lib.hid hg10
                have HNN10 := Lib.hid hnn10
                have HN10 : Hid (nn10 < maxLen) := by have := HWA8.out.rb; rw [Hid]; unfold maxLen; omega
                have HBLK9 := Lib.hid (set_of hblk8 6 (.int .i64 (q : Int)))
                have HNX := Lib.hid hnx
                have HNE8 := Lib.hid hne8
                clear p0 p1 p2 p3 p5 p7 pu hblk8 hq hown10 hg10 hnn10 hnx hnz hne8
                go_wp2_with (first
                  | (at_mapUpdate; refine wpList_mapUpdate_own _ rfl _ _ _ 98 rfl 9 3 keyedS Tryd.underlying98 _ mb nn10 D10 rfl HOWN10.out HN10.out _ _ (.string t) rfl rfl HKEY.out (.lit (.int .i64 2)) [] HV2.out ?_; intro w10 h10 g10; have hb10 := (g10.block wb (Array.getElem?_eq_some_iff.1 HBLK9.out).1 (by simpa using fun e => HNE8.out e.symm)).trans HBLK9.out; have k7 : w10.cell? ⟨wb, 7, none⟩ = some ov2 := cell_of hb10 7; have HH10 := Lib.hid h10; have HGG10 := Lib.hid g10; clear hb10 h10 g10)
                  | (at_builtin; obtain ⟨v', w11, hrun, ho, hoth, hwh⟩ := run_app_one w10 wI.heap.size ov2 s2.order t (own_onlyS (F := fun j => j = mb) (own_onlyS (F := fun j => j = wb) HWA8.out.ord ((Only.refl (fun j => j = wb) w8).set (.inl rfl) 6 (.int .i64 (q : Int))) (fun g hg e => (HWA8.out.sep g hg).1 e)) (Only.of_grown HGG10.out (fun k e => by cases e; rfl)) (fun g hg e => (HWA8.out.sep g hg).2 e)) (by have := HWA8.out.ol; have := HWA8.out.rb; omega) (Nat.le_trans HWA8.out.old.size (by have := HGG10.out.size; simpa using this)); obtain ⟨b11, WA11, RW11⟩ := HWA8.out.closed HQQ.out t HNN10.out HD10.out HG10.out HH10.out HGG10.out ho hoth hwh; have r7 : w11.cell? ⟨wb, 7, none⟩ = some ov2 := cell_of b11 7; have ru7 := free_of b11 7; rw [show (⟨t.toArray⟩ : ByteArray) = tb from HTB.out] at hrun; obtain ⟨va, vn, vc, rfl⟩ := sl_form (SlS.own ho); have HWA11 := Lib.hid WA11; have HRW11 := Lib.hid RW11; have HRUN := Lib.hid hrun; clear hrun ho hoth hwh b11 WA11 RW11; refine wpList_run_append _ rfl _ _ 29 29 rfl _ _ rfl rfl HRUN.out ?_))
                exact ⟨⟨k + 1, by omega, by go_num, ⟨⟨m, closeS s2 t, _, by omega, HNX.out, HWA11.out, HRY.out.trans (HRW6.out.trans (HRW8.out.trans HRW11.out))⟩⟩⟩, by simp [intOf]; omega⟩
            | true =>
              rw [hr] at z3
              clear hor hr
              have HWY := HWZ
              have HRY := HRZ
              have HZY := HZ
              have HB5 : Hid (Below wz.heap.size wz wz) := Below.refl _ _
              have y4 : wz.cell? ⟨wb, 4, none⟩ = some (.map (some mb)) := cell_of HWY.out.blk 4
              go_wp2_with (at_mapUpdate; refine wpList_mapUpdate_own _ rfl _ _ _ 98 rfl 9 3 keyedS Tryd.underlying98 _ mb nn9 D9 rfl (HOWN9.out _ HB5.out) HN91.out _ _ (.string t) rfl rfl HKEY.out (.lit (.int .i64 1)) [] HV1.out ?_; intro w6 h6 g6; obtain ⟨b6, WA6, RW6⟩ := HWY.out.opened t HNN9.out HD9.out HG9.out h6 g6 hrc; obtain ⟨v0, v1, v2, v3, v4, v5, v6, v7, vu⟩ := box100 b6; have vu5 := vu 5; have vu6 := vu 6; obtain ⟨x0, _, _, _, _, _, _, _⟩ := box50 ((g6.block b7 (Array.getElem?_eq_some_iff.1 HZY.out.blk).1 (by simpa using HBM.out)).trans HZY.out.blk); have HNS6 := Lib.hid (HZY.out.ns.only2 (Only.of_grown (S := fun j => j = mb) g6 (fun k e => by cases e; rfl)) (fun g _ hg e => by have := HZY.out.sep g hg; have := HLW.out.2.1; omega)); have HWA6 := Lib.hid WA6; have HRW6 := Lib.hid RW6; clear h6 g6 b6 WA6 RW6 v0 v1 v2 v3 v4 v7 vu)
              have HREC := Lib.hid (HIH.out m (by omega) (GG rs t).ns (.slice na nn nc) (openS s1 t) e s2 _ ov1 HS2.out HWA6.out (fun w' ho => (HNS6.out.only2 (((Only.refl (fun j => j = wb) w6).set (.inl rfl) 5 _).set (.inl rfl) 6 _) (fun g _ hg e => by have := HZY.out.sep g hg; have := HLW.out.1; omega)).only2 ho (fun g _ hg e => by
                have h3 := HZY.out.sep g hg
                rcases e with e | e | e
                · have := HLW.out.1; omega
                · have := HLW.out.2.1; omega
                · have := HLW.out.2.2 g e; omega)) HPNL.out)
              refine HREC.out.mono ?_
              rintro e9 w8 ⟨rfl, ov2, hwa8, hrw8⟩
              have HWA8 := Lib.hid hwa8
              have HRW8 := Lib.hid hrw8
              clear hwa8 hrw8 HREC vu5 vu6 v5 v6 x0
              simp only []
              rcases hres with ⟨he0, hr⟩ | ⟨he0, hnz, hnx⟩
              · have hen : (e != 0) = true := by simpa using he0
                have HR := Lib.hid hr
                clear hr he0
                go_wp2_with fail
                rw [← HQ.out]
                have hr := HR.out
                injection hr with e1 e2
                subst e1; subst e2
                exact ⟨rfl, _, HWA8.out, HRY.out.trans (HRW6.out.trans HRW8.out)⟩
              · subst he0
                obtain ⟨q, hq⟩ : ∃ q, s2.nested = q + 1 := ⟨s2.nested - 1, by omega⟩
                obtain ⟨nn10, D10, hnn10, hown10, hg10⟩ := HWA8.out.map
                have hblk8 := HWA8.out.blk
                unfold wkC at hblk8
                rw [hq] at hblk8
                obtain ⟨p0, p1, p2, p3, p4, p5, p6, p7, pu⟩ := box100 hblk8
                have p6 : w8.cell? ⟨wb, 6, none⟩ = some (.int .i64 ((q : Int) + 1)) := p6
                have pu6 := pu 6
                have hqb : (q : Int) ≤ 1000 := by have := HWA8.out.nr; have := HWA8.out.rb; omega
                have hsub : IntKind.i64.wrap ((q : Int) + 1 - 1) = (q : Int) := by rw [show (q : Int) + 1 - 1 = (q : Int) by omega]; exact IntWalk.i64_in _ (by omega)
                have HQQ := Lib.hid hq
                have hne8 := HWA8.out.ne
                have HOWN10 := Lib.hid (hown10.setCell (a := ⟨wb, 6, none⟩) hne8 (.int .i64 (q : Int)))
                have HD10 : Hid (IsMap D10) := hown10.isMap
                have HG10 := Lib.hid hg10
                have HNN10 := Lib.hid hnn10
                have HN10 : Hid (nn10 < maxLen) := by have := HWA8.out.rb; rw [Hid]; unfold maxLen; omega
                have HBLK9 := Lib.hid (set_of hblk8 6 (.int .i64 (q : Int)))
                have HNX := Lib.hid hnx
                have HNE8 := Lib.hid hne8
                clear p0 p1 p2 p3 p5 p7 pu hblk8 hq hown10 hg10 hnn10 hnx hnz hne8
                go_wp2_with (first
                  | (at_mapUpdate; refine wpList_mapUpdate_own _ rfl _ _ _ 98 rfl 9 3 keyedS Tryd.underlying98 _ mb nn10 D10 rfl HOWN10.out HN10.out _ _ (.string t) rfl rfl HKEY.out (.lit (.int .i64 2)) [] HV2.out ?_; intro w10 h10 g10; have hb10 := (g10.block wb (Array.getElem?_eq_some_iff.1 HBLK9.out).1 (by simpa using fun e => HNE8.out e.symm)).trans HBLK9.out; have k7 : w10.cell? ⟨wb, 7, none⟩ = some ov2 := cell_of hb10 7; have HH10 := Lib.hid h10; have HGG10 := Lib.hid g10; clear hb10 h10 g10)
                  | (at_builtin; obtain ⟨v', w11, hrun, ho, hoth, hwh⟩ := run_app_one w10 wI.heap.size ov2 s2.order t (own_onlyS (F := fun j => j = mb) (own_onlyS (F := fun j => j = wb) HWA8.out.ord ((Only.refl (fun j => j = wb) w8).set (.inl rfl) 6 (.int .i64 (q : Int))) (fun g hg e => (HWA8.out.sep g hg).1 e)) (Only.of_grown HGG10.out (fun k e => by cases e; rfl)) (fun g hg e => (HWA8.out.sep g hg).2 e)) (by have := HWA8.out.ol; have := HWA8.out.rb; omega) (Nat.le_trans HWA8.out.old.size (by have := HGG10.out.size; simpa using this)); obtain ⟨b11, WA11, RW11⟩ := HWA8.out.closed HQQ.out t HNN10.out HD10.out HG10.out HH10.out HGG10.out ho hoth hwh; have r7 : w11.cell? ⟨wb, 7, none⟩ = some ov2 := cell_of b11 7; have ru7 := free_of b11 7; rw [show (⟨t.toArray⟩ : ByteArray) = tb from HTB.out] at hrun; obtain ⟨va, vn, vc, rfl⟩ := sl_form (SlS.own ho); have HWA11 := Lib.hid WA11; have HRW11 := Lib.hid RW11; have HRUN := Lib.hid hrun; clear hrun ho hoth hwh b11 WA11 RW11; refine wpList_run_append _ rfl _ _ 29 29 rfl _ _ rfl rfl HRUN.out ?_))
                exact ⟨⟨k + 1, by omega, by go_num, ⟨⟨m, closeS s2 t, _, by omega, HNX.out, HWA11.out, HRY.out.trans (HRW6.out.trans (HRW8.out.trans HRW11.out))⟩⟩⟩, by simp [intOf]; omega⟩
        · have HZ := Lib.hid (zb_two hbq hnv hnb (ra := ra) (rn := rn) (rc := rc) (p := GG rs t))
          clear hbq hnv hnb hrv z0 z1 z2 z3 y0 y1 y2 y3
          generalize (((wq.setCell ⟨wr.heap.size, 0, none⟩ (.slice na nn nc)).setCell ⟨wr.heap.size, 1, none⟩ (.slice ra rn rc)).setCell ⟨wr.heap.size, 2, none⟩ (.string ⟨#[]⟩)).setCell ⟨wr.heap.size, 3, none⟩ (.bool (GG rs t).rule) = wz at HZ ⊢
          generalize hb7 : wr.heap.size = b7 at HZ ⊢
          clear hb7
          clear HPLAN HCC hlk q0 q1 q2 q3 q4 q5 q6
          have hrI : (s1.reached : Int) < 1000 := by omega
          have hnI : (s1.nested : Int) < 200 := by omega
          have HWZ := Lib.hid (HWA.out.below HZ.out.old)
          have HRZ := Lib.hid (HRW.out.below HZ.out.old)
          have HPNL : Hid ((GG rs t).ns.length ≤ 200000) := by
            have := planL_ns (plainF rs t) ⟨[], [], false⟩ (fun r hr => HC.out.few r (List.mem_filter.1 hr).1)
            have e2 := plain_len rs t
            have e3 := HC.out.len
            refine Nat.le_trans this ?_
            show 0 + _ ≤ _
            omega
          have HTL : Hid (tb.size ≤ maxLen) := by
            rw [← HTB.out, Hid]
            have := HNM.out.le
            unfold nameB maxLen; simp [ByteArray.size]; omega
          have HTH := Lib.hid (fun (b : Bool) (hb : thF T t = b) => by
            obtain ⟨B0, N0, c0, F, hF⟩ := HC.out.fs
            obtain ⟨p0, p1, p2, p3, _⟩ := box100 HWZ.out.blk
            have := thereG_any (hF.below HWZ.out.old) HNM.out b hb wb HWZ.out.lts.1 p2 p3
            rw [HTB.out] at this
            exact this)
          obtain ⟨z0, z1, z2, z3, _⟩ := box50 HZ.out.blk
          rcases HREST.out with ⟨hr1, ht1, hres⟩ | ⟨hor, e, s2, hs2, hres⟩
          · rw [show (GG rs t).rule = false from hr1] at z3
            have HT1 := Lib.hid (HTH.out false ht1)
            have HR := Lib.hid hres
            clear hr1 ht1 hres
            go_wp2_with (go_at_call 83; refine HT1.out.mono ?_; rintro e w5 ⟨rfl, h5⟩; have H5 := Lib.hid h5; clear h5; simp only [])
            rw [← HQ.out]
            have hr := HR.out
            injection hr with e1 e2
            subst e1; subst e2
            exact ⟨rfl, _, HWZ.out.below H5.out, HRZ.out.below H5.out⟩
          · have HS2 := Lib.hid hs2
            clear hs2
            obtain ⟨nn9, D9, hnn9, hown9, hg9⟩ := HWZ.out.map
            have hkey := Go.WideMaps.keyOf_string_mk (P := Tryd.prog) Tryd.underlying9 (s := tb) HTL.out
            have hval1 : plainElem (H := Unit) Tryd.prog 3 (.int .i64 1) = some (.lit (.int .i64 1), []) := plainElem_int Tryd.underlying3 (by decide)
            have hval2 : plainElem (H := Unit) Tryd.prog 3 (.int .i64 2) = some (.lit (.int .i64 2), []) := plainElem_int Tryd.underlying3 (by decide)
            have hn91 : nn9 < maxLen := by have := HWZ.out.rb; unfold maxLen; omega
            rw [HDL.out] at hkey
            have HG9 := Lib.hid hg9
            have HD9 : Hid (IsMap D9) := hown9.isMap
            have HNN9 := Lib.hid hnn9
            have HV1 := Lib.hid hval1
            have HV2 := Lib.hid hval2
            have HKEY := Lib.hid hkey
            have HOWN9 : Hid (∀ w' : World, Below wz.heap.size wz w' → w'.ownsMap Tryd.prog 9 (plainElem (H := Unit) Tryd.prog 3) mb nn9 D9) := fun w' hb => by
              obtain ⟨es, clock, h2, F, hs, hD⟩ := hown9
              exact ⟨es, clock, (hb.block mb HWZ.out.map.lt).trans h2, F, hs, hD⟩
            have HN91 := Lib.hid hn91
            have hlw := HWA.out.lts
            have hb7w : b7 ≠ wb := by have := HZ.out.ge; have := hlw.1; omega
            have hb7m : b7 ≠ mb := by have := HZ.out.ge; have := hlw.2.1; omega
            have hwb7 : wb ≠ b7 := fun e => hb7w e.symm
            have HLW := Lib.hid hlw
            have HBM := Lib.hid hb7m
            clear hg9 hnn9 hval1 hval2 hkey hown9 hn91 hlw hb7m
            cases hr : (GG rs t).rule with
            | false =>
              rw [hr] at z3
              have HT1 := Lib.hid (HTH.out true (hor.resolve_left (by rw [show (planL (plainF rs t)).rule = false from hr]; simp)))
              clear hor hr
              go_wp2_with (first
                | (go_at_call 83; refine HT1.out.mono ?_; rintro e9 w5 ⟨rfl, h5⟩; have HB5 := Lib.hid h5; have HWY := Lib.hid (HWZ.out.below h5); have HRY := Lib.hid (HRZ.out.below h5); have HZY := Lib.hid (HZ.out.below h5); have y4 : w5.cell? ⟨wb, 4, none⟩ = some (.map (some mb)) := cell_of HWY.out.blk 4; clear h5; simp only [])
                | (at_mapUpdate; refine wpList_mapUpdate_own _ rfl _ _ _ 98 rfl 9 3 keyedS Tryd.underlying98 _ mb nn9 D9 rfl (HOWN9.out _ HB5.out) HN91.out _ _ (.string t) rfl rfl HKEY.out (.lit (.int .i64 1)) [] HV1.out ?_; intro w6 h6 g6; obtain ⟨b6, WA6, RW6⟩ := HWY.out.opened t HNN9.out HD9.out HG9.out h6 g6 hrc; obtain ⟨v0, v1, v2, v3, v4, v5, v6, v7, vu⟩ := box100 b6; have vu5 := vu 5; have vu6 := vu 6; obtain ⟨x0, _, _, _, _, _, _, _⟩ := box50 ((g6.block b7 (Array.getElem?_eq_some_iff.1 HZY.out.blk).1 (by simpa using HBM.out)).trans HZY.out.blk); have HNS6 := Lib.hid (HZY.out.ns.only2 (Only.of_grown (S := fun j => j = mb) g6 (fun k e => by cases e; rfl)) (fun g _ hg e => by have := HZY.out.sep g hg; have := HLW.out.2.1; omega)); have HWA6 := Lib.hid WA6; have HRW6 := Lib.hid RW6; clear h6 g6 b6 WA6 RW6 v0 v1 v2 v3 v4 v7 vu))
              have HREC := Lib.hid (HIH.out m (by omega) (GG rs t).ns (.slice na nn nc) (openS s1 t) e s2 _ ov1 HS2.out HWA6.out (fun w' ho => (HNS6.out.only2 (((Only.refl (fun j => j = wb) w6).set (.inl rfl) 5 _).set (.inl rfl) 6 _) (fun g _ hg e => by have := HZY.out.sep g hg; have := HLW.out.1; omega)).only2 ho (fun g _ hg e => by
                have h3 := HZY.out.sep g hg
                rcases e with e | e | e
                · have := HLW.out.1; omega
                · have := HLW.out.2.1; omega
                · have := HLW.out.2.2 g e; omega)) HPNL.out)
              refine HREC.out.mono ?_
              rintro e9 w8 ⟨rfl, ov2, hwa8, hrw8⟩
              have HWA8 := Lib.hid hwa8
              have HRW8 := Lib.hid hrw8
              clear hwa8 hrw8 HREC vu5 vu6 v5 v6 x0
              simp only []
              rcases hres with ⟨he0, hr⟩ | ⟨he0, hnz, hnx⟩
              · have hen : (e != 0) = true := by simpa using he0
                have HR := Lib.hid hr
                clear hr he0
                go_wp2_with fail
                rw [← HQ.out]
                have hr := HR.out
                injection hr with e1 e2
                subst e1; subst e2
                exact ⟨rfl, _, HWA8.out, HRY.out.trans (HRW6.out.trans HRW8.out)⟩
              · subst he0
                obtain ⟨q, hq⟩ : ∃ q, s2.nested = q + 1 := ⟨s2.nested - 1, by omega⟩
                obtain ⟨nn10, D10, hnn10, hown10, hg10⟩ := HWA8.out.map
                have hblk8 := HWA8.out.blk
                unfold wkC at hblk8
                rw [hq] at hblk8
                obtain ⟨p0, p1, p2, p3, p4, p5, p6, p7, pu⟩ := box100 hblk8
                have p6 : w8.cell? ⟨wb, 6, none⟩ = some (.int .i64 ((q : Int) + 1)) := p6
                have pu6 := pu 6
                have hqb : (q : Int) ≤ 1000 := by have := HWA8.out.nr; have := HWA8.out.rb; omega
                have hsub : IntKind.i64.wrap ((q : Int) + 1 - 1) = (q : Int) := by rw [show (q : Int) + 1 - 1 = (q : Int) by omega]; exact IntWalk.i64_in _ (by omega)
                have HQQ := Lib.hid hq
                have hne8 := HWA8.out.ne
                have HOWN10 := Lib.hid (hown10.setCell (a := ⟨wb, 6, none⟩) hne8 (.int .i64 (q : Int)))
                have HD10 : Hid (IsMap D10) := hown10.isMap
                have HG10 := Lib.hid hg10
                have HNN10 := Lib.hid hnn10
                have HN10 : Hid (nn10 < maxLen) := by have := HWA8.out.rb; rw [Hid]; unfold maxLen; omega
                have HBLK9 := Lib.hid (set_of hblk8 6 (.int .i64 (q : Int)))
                have HNX := Lib.hid hnx
                have HNE8 := Lib.hid hne8
                clear p0 p1 p2 p3 p5 p7 pu hblk8 hq hown10 hg10 hnn10 hnx hnz hne8
                go_wp2_with (first
                  | (at_mapUpdate; refine wpList_mapUpdate_own _ rfl _ _ _ 98 rfl 9 3 keyedS Tryd.underlying98 _ mb nn10 D10 rfl HOWN10.out HN10.out _ _ (.string t) rfl rfl HKEY.out (.lit (.int .i64 2)) [] HV2.out ?_; intro w10 h10 g10; have hb10 := (g10.block wb (Array.getElem?_eq_some_iff.1 HBLK9.out).1 (by simpa using fun e => HNE8.out e.symm)).trans HBLK9.out; have k7 : w10.cell? ⟨wb, 7, none⟩ = some ov2 := cell_of hb10 7; have HH10 := Lib.hid h10; have HGG10 := Lib.hid g10; clear hb10 h10 g10)
                  | (at_builtin; obtain ⟨v', w11, hrun, ho, hoth, hwh⟩ := run_app_one w10 wI.heap.size ov2 s2.order t (own_onlyS (F := fun j => j = mb) (own_onlyS (F := fun j => j = wb) HWA8.out.ord ((Only.refl (fun j => j = wb) w8).set (.inl rfl) 6 (.int .i64 (q : Int))) (fun g hg e => (HWA8.out.sep g hg).1 e)) (Only.of_grown HGG10.out (fun k e => by cases e; rfl)) (fun g hg e => (HWA8.out.sep g hg).2 e)) (by have := HWA8.out.ol; have := HWA8.out.rb; omega) (Nat.le_trans HWA8.out.old.size (by have := HGG10.out.size; simpa using this)); obtain ⟨b11, WA11, RW11⟩ := HWA8.out.closed HQQ.out t HNN10.out HD10.out HG10.out HH10.out HGG10.out ho hoth hwh; have r7 : w11.cell? ⟨wb, 7, none⟩ = some ov2 := cell_of b11 7; have ru7 := free_of b11 7; rw [show (⟨t.toArray⟩ : ByteArray) = tb from HTB.out] at hrun; obtain ⟨va, vn, vc, rfl⟩ := sl_form (SlS.own ho); have HWA11 := Lib.hid WA11; have HRW11 := Lib.hid RW11; have HRUN := Lib.hid hrun; clear hrun ho hoth hwh b11 WA11 RW11; refine wpList_run_append _ rfl _ _ 29 29 rfl _ _ rfl rfl HRUN.out ?_))
                exact ⟨⟨k + 1, by omega, by go_num, ⟨⟨m, closeS s2 t, _, by omega, HNX.out, HWA11.out, HRY.out.trans (HRW6.out.trans (HRW8.out.trans HRW11.out))⟩⟩⟩, by simp [intOf]; omega⟩
            | true =>
              rw [hr] at z3
              clear hor hr
              have HWY := HWZ
              have HRY := HRZ
              have HZY := HZ
              have HB5 : Hid (Below wz.heap.size wz wz) := Below.refl _ _
              have y4 : wz.cell? ⟨wb, 4, none⟩ = some (.map (some mb)) := cell_of HWY.out.blk 4
              go_wp2_with (at_mapUpdate; refine wpList_mapUpdate_own _ rfl _ _ _ 98 rfl 9 3 keyedS Tryd.underlying98 _ mb nn9 D9 rfl (HOWN9.out _ HB5.out) HN91.out _ _ (.string t) rfl rfl HKEY.out (.lit (.int .i64 1)) [] HV1.out ?_; intro w6 h6 g6; obtain ⟨b6, WA6, RW6⟩ := HWY.out.opened t HNN9.out HD9.out HG9.out h6 g6 hrc; obtain ⟨v0, v1, v2, v3, v4, v5, v6, v7, vu⟩ := box100 b6; have vu5 := vu 5; have vu6 := vu 6; obtain ⟨x0, _, _, _, _, _, _, _⟩ := box50 ((g6.block b7 (Array.getElem?_eq_some_iff.1 HZY.out.blk).1 (by simpa using HBM.out)).trans HZY.out.blk); have HNS6 := Lib.hid (HZY.out.ns.only2 (Only.of_grown (S := fun j => j = mb) g6 (fun k e => by cases e; rfl)) (fun g _ hg e => by have := HZY.out.sep g hg; have := HLW.out.2.1; omega)); have HWA6 := Lib.hid WA6; have HRW6 := Lib.hid RW6; clear h6 g6 b6 WA6 RW6 v0 v1 v2 v3 v4 v7 vu)
              have HREC := Lib.hid (HIH.out m (by omega) (GG rs t).ns (.slice na nn nc) (openS s1 t) e s2 _ ov1 HS2.out HWA6.out (fun w' ho => (HNS6.out.only2 (((Only.refl (fun j => j = wb) w6).set (.inl rfl) 5 _).set (.inl rfl) 6 _) (fun g _ hg e => by have := HZY.out.sep g hg; have := HLW.out.1; omega)).only2 ho (fun g _ hg e => by
                have h3 := HZY.out.sep g hg
                rcases e with e | e | e
                · have := HLW.out.1; omega
                · have := HLW.out.2.1; omega
                · have := HLW.out.2.2 g e; omega)) HPNL.out)
              refine HREC.out.mono ?_
              rintro e9 w8 ⟨rfl, ov2, hwa8, hrw8⟩
              have HWA8 := Lib.hid hwa8
              have HRW8 := Lib.hid hrw8
              clear hwa8 hrw8 HREC vu5 vu6 v5 v6 x0
              simp only []
              rcases hres with ⟨he0, hr⟩ | ⟨he0, hnz, hnx⟩
              · have hen : (e != 0) = true := by simpa using he0
                have HR := Lib.hid hr
                clear hr he0
                go_wp2_with fail
                rw [← HQ.out]
                have hr := HR.out
                injection hr with e1 e2
                subst e1; subst e2
                exact ⟨rfl, _, HWA8.out, HRY.out.trans (HRW6.out.trans HRW8.out)⟩
              · subst he0
                obtain ⟨q, hq⟩ : ∃ q, s2.nested = q + 1 := ⟨s2.nested - 1, by omega⟩
                obtain ⟨nn10, D10, hnn10, hown10, hg10⟩ := HWA8.out.map
                have hblk8 := HWA8.out.blk
                unfold wkC at hblk8
                rw [hq] at hblk8
                obtain ⟨p0, p1, p2, p3, p4, p5, p6, p7, pu⟩ := box100 hblk8
                have p6 : w8.cell? ⟨wb, 6, none⟩ = some (.int .i64 ((q : Int) + 1)) := p6
                have pu6 := pu 6
                have hqb : (q : Int) ≤ 1000 := by have := HWA8.out.nr; have := HWA8.out.rb; omega
                have hsub : IntKind.i64.wrap ((q : Int) + 1 - 1) = (q : Int) := by rw [show (q : Int) + 1 - 1 = (q : Int) by omega]; exact IntWalk.i64_in _ (by omega)
                have HQQ := Lib.hid hq
                have hne8 := HWA8.out.ne
                have HOWN10 := Lib.hid (hown10.setCell (a := ⟨wb, 6, none⟩) hne8 (.int .i64 (q : Int)))
                have HD10 : Hid (IsMap D10) := hown10.isMap
                have HG10 := Lib.hid hg10
                have HNN10 := Lib.hid hnn10
                have HN10 : Hid (nn10 < maxLen) := by have := HWA8.out.rb; rw [Hid]; unfold maxLen; omega
                have HBLK9 := Lib.hid (set_of hblk8 6 (.int .i64 (q : Int)))
                have HNX := Lib.hid hnx
                have HNE8 := Lib.hid hne8
                clear p0 p1 p2 p3 p5 p7 pu hblk8 hq hown10 hg10 hnn10 hnx hnz hne8
                go_wp2_with (first
                  | (at_mapUpdate; refine wpList_mapUpdate_own _ rfl _ _ _ 98 rfl 9 3 keyedS Tryd.underlying98 _ mb nn10 D10 rfl HOWN10.out HN10.out _ _ (.string t) rfl rfl HKEY.out (.lit (.int .i64 2)) [] HV2.out ?_; intro w10 h10 g10; have hb10 := (g10.block wb (Array.getElem?_eq_some_iff.1 HBLK9.out).1 (by simpa using fun e => HNE8.out e.symm)).trans HBLK9.out; have k7 : w10.cell? ⟨wb, 7, none⟩ = some ov2 := cell_of hb10 7; have HH10 := Lib.hid h10; have HGG10 := Lib.hid g10; clear hb10 h10 g10)
                  | (at_builtin; obtain ⟨v', w11, hrun, ho, hoth, hwh⟩ := run_app_one w10 wI.heap.size ov2 s2.order t (own_onlyS (F := fun j => j = mb) (own_onlyS (F := fun j => j = wb) HWA8.out.ord ((Only.refl (fun j => j = wb) w8).set (.inl rfl) 6 (.int .i64 (q : Int))) (fun g hg e => (HWA8.out.sep g hg).1 e)) (Only.of_grown HGG10.out (fun k e => by cases e; rfl)) (fun g hg e => (HWA8.out.sep g hg).2 e)) (by have := HWA8.out.ol; have := HWA8.out.rb; omega) (Nat.le_trans HWA8.out.old.size (by have := HGG10.out.size; simpa using this)); obtain ⟨b11, WA11, RW11⟩ := HWA8.out.closed HQQ.out t HNN10.out HD10.out HG10.out HH10.out HGG10.out ho hoth hwh; have r7 : w11.cell? ⟨wb, 7, none⟩ = some ov2 := cell_of b11 7; have ru7 := free_of b11 7; rw [show (⟨t.toArray⟩ : ByteArray) = tb from HTB.out] at hrun; obtain ⟨va, vn, vc, rfl⟩ := sl_form (SlS.own ho); have HWA11 := Lib.hid WA11; have HRW11 := Lib.hid RW11; have HRUN := Lib.hid hrun; clear hrun ho hoth hwh b11 WA11 RW11; refine wpList_run_append _ rfl _ _ 29 29 rfl _ _ rfl rfl HRUN.out ?_))
                exact ⟨⟨k + 1, by omega, by go_num, ⟨⟨m, closeS s2 t, _, by omega, HNX.out, HWA11.out, HRY.out.trans (HRW6.out.trans (HRW8.out.trans HRW11.out))⟩⟩⟩, by simp [intOf]; omega⟩
    · have hltI : ¬ (k : Int) < (n : Int) := by omega
      go_wp2_with fail
      rw [← HQ.out]
      obtain ⟨fk, s1, ov1, hfk, hso, hwa, hrw⟩ := HX.out.ex
      rw [List.drop_eq_nil_of_le (by rw [HN.out]; omega)] at hso
      cases fk with
      | zero => cases hso
      | succ m =>
        rw [sortF] at hso
        injection hso with hso
        injection hso with e1 e2
        subst e1; subst e2
        exact ⟨rfl, _, hwa, hrw⟩
end Go.Proofs.YtjagnihkpgbjeaaDoor
