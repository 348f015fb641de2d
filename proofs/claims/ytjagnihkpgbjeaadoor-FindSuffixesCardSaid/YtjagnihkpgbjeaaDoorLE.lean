import Derived.Test.YtjagnihkpgbjeaaDoorZC
import Derived.Test.YtjagnihkpgbjeaaDoorQM
namespace Go.Proofs.YtjagnihkpgbjeaaDoor
open Go.RowKit Go.Maps Go.ChangeMaps
set_option linter.unusedVariables false
/-! A rule of two suffixes that are listed: suffix. -/
/-- Worlds in which a result stands beside the plan. -/
structure Sf (w : World) (b6 b4 : Nat) (c6 c4 : List Value) (nv : Value) (ns : List Bs) where
  v : World
  bel : Below w.heap.size w v
  e6 : v.heap[b6]? = some (.cells c6.toArray 50 (0, 0))
  e4 : v.heap[b4]? = some (.cells c4.toArray 50 (0, 0))
  sn : SlS v nv ns
theorem Sf.on {w : World} {b6 b4 : Nat} {c6 c4 : List Value} {nv : Value} {ns : List Bs} (b : Sf w b6 b4 c6 c4 nv ns) {v' : World} (h : Below b.v.heap.size b.v v') : ∃ b' : Sf w b6 b4 c6 c4 nv ns, v' = b'.v :=
  ⟨⟨v', b.bel.trans (h.mono b.bel.size), (h.block _ (Array.getElem?_eq_some_iff.1 b.e6).1).trans b.e6, (h.block _ (Array.getElem?_eq_some_iff.1 b.e4).1).trans b.e4, b.sn.below h⟩, rfl⟩
theorem need_ne {st a b : Bs} (hab : a ≠ b) : st ++ 46 :: a ≠ st ++ 46 :: b := fun e => hab (by
  have := List.append_cancel_left e
  injection this)
set_option maxRecDepth 100000 in
set_option maxHeartbeats 8000000 in
theorem suf_two {w : World} {B N f : Nat} {c : Cn} {T : Tr} {F : Nat → Prop} (hF : Fs w B N f c T F) (hm : Hm w) (sb : Nat) (hlt : sb < w.heap.size) (st a b : Bs) (tv nv rcv uv ms rv : Value) (rs : List Rl) (h3 : Rl3 w tv nv rcv (ruS a b)) (hu : SlS w uv [46 :: a, 46 :: b])
    (hs : Low st) (ha : Low a) (hb : Low b) (hs0 : st ≠ []) (ha0 : a ≠ []) (hb0 : b ≠ []) (hab : a ≠ b) (hl : st.length + a.length + b.length ≤ 60)
    (q0 : w.cell? ⟨sb, 0, none⟩ = some ms) (q1 : w.cell? ⟨sb, 1, none⟩ = some rv) (q2 : w.cell? ⟨sb, 2, none⟩ = some (.pointer (some ⟨f, 0, none⟩))) (q3 : w.cell? ⟨sb, 3, none⟩ = some (.string ⟨#[47]⟩)) (q4 : w.cell? ⟨sb, 4, none⟩ = some (.string (nameB (st ++ 46 :: b))))
    (hv : RsV w rv rs) (hvl : rs.length ≤ 1000) (hms : ∃ a n c, ms = .slice a n c) (hkn : knownF rs (st ++ 46 :: a) = false) (th : Bool) (hkd : kdF T (st ++ 46 :: a) = if th then 1 else 0) :
    Calls Tryd.prog 82 #[.pointer (some ⟨sb, 0, none⟩), .agg #[tv, nv, rcv], uv] w (SufP th st (st ++ 46 :: a) rcv w) := by
  obtain ⟨Q, hQ⟩ : ∃ Q, SufP th st (st ++ 46 :: a) rcv w = Q := ⟨_, rfl⟩
  rw [hQ]
  have HQ := Lib.hid hQ
  obtain ⟨ta, tc, htv⟩ := h3.t.len
  obtain ⟨na, nc, hnv⟩ := h3.n.len
  obtain ⟨ra, rcc, hrv⟩ := h3.k.len
  have htv : tv = .slice ta 1 tc := htv
  have hnv : nv = .slice na 0 nc := hnv
  have hrv : rcv = .slice ra 1 rcc := hrv
  subst htv; subst hnv; subst hrv
  obtain ⟨ma, mn, mc, rfl⟩ := hms
  obtain ⟨gt, ot, rfl, _, hct⟩ := strs_sl h3.t (by simp [ruS])
  have t0 : w.cell? ⟨gt, ot, none⟩ = some (.string (nameB (46 :: (a ++ 46 :: b)))) := hct 0 (by simp [ruS])
  have HS := Lib.hid (fun (w' : World) (h : Below w.heap.size w w') => split_two a b uv w' ha hb ha0 hb0 (by omega) (hu.below h))
  have HX := Lib.hid (fun (w' : World) => Tryd.strings_HasSuffix (nameB (st ++ 46 :: b)) (nameB (46 :: b)) w' (by rw [nameB_size]; simp; omega))
  have e2 : Lib.hasSuffix (st ++ 46 :: b) (46 :: b) = true := by
    unfold Lib.hasSuffix
    exact List.isSuffixOf_iff_suffix.2 ⟨st, rfl⟩
  rw [nameB_list, nameB_list, e2] at HX
  have hnm := nm_two hs ha hs0 (by have := List.length_pos_iff.2 hb0; omega)
  have HK1 := Lib.hid (fun (w' : World) (h : Below w.heap.size w w') => kindG_any (hF.below h) hnm _ hkd sb (Nat.lt_of_lt_of_le hlt h.size) ((h.cell (p := ⟨sb, 2, none⟩) hlt).trans q2) ((h.cell (p := ⟨sb, 3, none⟩) hlt).trans q3))
  have HK2 := Lib.hid (fun (w' : World) (h : Below w.heap.size w w') => Known_any (.slice ma mn mc) rv rs (nameB (st ++ 46 :: a)) w' (hv.below h) hvl false (by rw [nameB_list]; exact hkn))
  have sTG : (nameB (st ++ 46 :: b)).size = st.length + (b.length + 1) := by rw [nameB_size]; simp
  have sTO : (nameB (46 :: b)).size = b.length + 1 := by rw [nameB_size]; simp
  have sFR : (nameB (46 :: a)).size = a.length + 1 := by rw [nameB_size]; simp
  have sST : (nameB st).size = st.length := nameB_size _
  have hsl : 0 < st.length := List.length_pos_iff.2 hs0
  have hex : (nameB (st ++ 46 :: b)).extract 0 st.length = nameB st := extract_nm st (46 :: b)
  have hcat : nameB st ++ nameB (46 :: a) = nameB (st ++ 46 :: a) := (nameB_app st (46 :: a)).symm ▸ rfl
  have hnn : (nameB (st ++ 46 :: a)).data.toList ≠ (nameB (st ++ 46 :: b)).data.toList := by rw [nameB_list, nameB_list]; exact need_ne hab
  obtain ⟨va, vc, hvf⟩ := hv.len
  obtain ⟨vn, hvn⟩ : ∃ n, rs.length = n := ⟨_, rfl⟩
  rw [hvn] at hvf
  subst hvf
  obtain ⟨S, hS⟩ : ∃ S, nameB (46 :: (a ++ 46 :: b)) = S := ⟨_, rfl⟩
  obtain ⟨TG, hTG⟩ : ∃ S, nameB (st ++ 46 :: b) = S := ⟨_, rfl⟩
  obtain ⟨TO, hTO⟩ : ∃ S, nameB (46 :: b) = S := ⟨_, rfl⟩
  obtain ⟨FR, hFR⟩ : ∃ S, nameB (46 :: a) = S := ⟨_, rfl⟩
  obtain ⟨ST, hST⟩ : ∃ S, nameB st = S := ⟨_, rfl⟩
  obtain ⟨NE, hNE⟩ : ∃ S, nameB (st ++ 46 :: a) = S := ⟨_, rfl⟩
  rw [hS, hFR, hTO] at HS
  rw [hS] at t0
  rw [hTG] at q4 HX sTG hex hnn
  rw [hTO] at HX sTO
  rw [hFR] at sFR hcat
  rw [hST] at sST hex hcat
  rw [hNE] at HK1 HK2 hcat hnn
  have HST := Lib.hid hST
  have HNE := Lib.hid hNE
  obtain ⟨ua, uc, huf⟩ := hu.len
  have huf : uv = .slice ua 2 uc := huf
  subst huf
  have HQ0 : Hid (∀ w' : World, Below w.heap.size w w' → w'.cell? ⟨sb, 0, none⟩ = some (.slice ma mn mc) ∧ w'.cell? ⟨sb, 1, none⟩ = some (.slice va vn vc) ∧ w'.cell? ⟨sb, 4, none⟩ = some (.string TG)) := fun w' h =>
    ⟨(h.cell (p := ⟨sb, 0, none⟩) hlt).trans q0, (h.cell (p := ⟨sb, 1, none⟩) hlt).trans q1, (h.cell (p := ⟨sb, 4, none⟩) hlt).trans q4⟩
  obtain ⟨W2, hW2⟩ : ∃ W2, ((w.alloc (.cells #[.slice (some ⟨gt, ot, none⟩) 1 tc, .slice na 0 nc, .slice ra 1 rcc] 48)).alloc (.cells #[.slice none 0 0, .slice none 0 0, .string ⟨#[]⟩, .bool false] 50)).alloc (.cells #[.slice none 0 0, .slice ra 1 rcc, .string ⟨#[]⟩, .bool false] 50) = W2 := ⟨_, rfl⟩
  obtain ⟨hB2, hs2, y3, y4, y6⟩ := suf_boxes w _ _ _ W2 hW2
  have z2 : ((w.alloc (.cells #[.slice (some ⟨gt, ot, none⟩) 1 tc, .slice na 0 nc, .slice ra 1 rcc] 48)).alloc (.cells #[.slice none 0 0, .slice none 0 0, .string ⟨#[]⟩, .bool false] 50)).cell? ⟨w.heap.size, 2, none⟩ = some (.slice ra 1 rcc) := by
    rw [World.cell?, Below.heap_alloc _ _ _ (by rw [size_alloc]; exact Nat.lt_succ_self _), heap_alloc_new]; rfl
  have zx0 : (((w.alloc (.cells #[.slice (some ⟨gt, ot, none⟩) 1 tc, .slice na 0 nc, .slice ra 1 rcc] 48)).alloc (.cells #[.slice none 0 0, .slice none 0 0, .string ⟨#[]⟩, .bool false] 50)).alloc (.cells #[.slice none 0 0, .slice ra 1 rcc, .string ⟨#[]⟩, .bool false] 50)).cell? ⟨w.heap.size, 0, none⟩ = some (.slice (some ⟨gt, ot, none⟩) 1 tc) := by rw [hW2]; exact cell_of y3 0
  have hgt := World.block_lt_of_cell? _ _ t0
  have ztt : (((w.alloc (.cells #[.slice (some ⟨gt, ot, none⟩) 1 tc, .slice na 0 nc, .slice ra 1 rcc] 48)).alloc (.cells #[.slice none 0 0, .slice none 0 0, .string ⟨#[]⟩, .bool false] 50)).alloc (.cells #[.slice none 0 0, .slice ra 1 rcc, .string ⟨#[]⟩, .bool false] 50)).cell? ⟨gt, ot, none⟩ = some (.string S) := by rw [hW2]; exact (hB2.cell (p := ⟨gt, ot, none⟩) hgt).trans t0
  have HRV := Lib.hid h3.k
  have HW2 := Lib.hid hW2
  have HB2 := Lib.hid hB2
  have HS2 := Lib.hid hs2
  have HY4 := Lib.hid y4
  have HY6 := Lib.hid y6
  have hszn : ¬ TG.size = TO.size := by omega
  have hszb : (TG.size == TO.size) = false := by simpa using hszn
  have hszi : ((TG.size : Int) == (TO.size : Int)) = false := by rw [beq_eq_false_iff_ne]; omega
  have hw5 : IntKind.i64.wrap ((TG.size : Int) - (TO.size : Int)) = (ST.size : Int) := by rw [IntWalk.i64_in _ (by omega)]; omega
  have hg6 : ¬ (9223372036854775807 < ST.size + FR.size) := by omega
  have hle : ST.size ≤ TG.size := by omega
  have hleI : (ST.size : Int) ≤ (TG.size : Int) := by omega
  have h0I : (0 : Int) ≤ (ST.size : Int) := by omega
  rw [← sST] at hex
  clear hct h3 hW2 hB2 hs2 y3 y4 y6 hu hs ha hb hs0 ha0 hb0 hl hS hQ hF hm hv hvl hkn hkd hab hnm e2 sTG sTO sFR sST hsl hTG hTO hFR hST hNE q0 q1 q2 q3 q4 hvn
  go_enter Tryd.func82, Tryd.ntmps82
  go_wp2_with (first
    | (go_at_call 108; rw [HW2.out]; refine (HS.out _ HB2.out).mono ?_; rintro e w5 ⟨rfl, h5⟩; have H5 := Lib.hid h5; have HBW : Hid (Below w.heap.size w w5) := HB2.out.trans (h5.mono HB2.out.size); have q4 := (HQ0.out w5 HBW.out).2.2; clear h5; simp only [])
    | (go_at_call 109; refine (HX.out _).mono ?_; rintro e w6 ⟨rfl, h6⟩; obtain rfl := h6.symm; simp only []))
  have e6 := (H5.out.block _ (Array.getElem?_eq_some_iff.1 HY6.out).1).trans HY6.out
  have e4 := (H5.out.block _ (Array.getElem?_eq_some_iff.1 HY4.out).1).trans HY4.out
  have hs5 : w.heap.size + 1 + 1 + 1 ≤ w5.heap.size := by have := H5.out.size; have := HS2.out; omega
  obtain ⟨b6, hb6⟩ : ∃ b6, w.heap.size + 1 + 1 = b6 := ⟨_, rfl⟩
  obtain ⟨b4, hb4⟩ : ∃ b4, w.heap.size + 1 = b4 := ⟨_, rfl⟩
  rw [hb6] at e6
  rw [hb4] at e4
  have hge : w.heap.size ≤ b4 := by omega
  have hge6 : w.heap.size ≤ b6 := by omega
  have hne : b4 ≠ b6 := by omega
  have hlt6 : b6 < w5.heap.size := by omega
  simp only [hb6]
  simp only [hb4]
  have E4 := Lib.hid e4
  have E6 := Lib.hid e6
  obtain ⟨k0, k1, k2, k3, i0, i1, i2, i3⟩ := box50 e6
  clear e4 e6 hb6 hb4
  go_still_tail 14, (by kernel_rfl)
  change wpList _ _ _ _ _ w5.drew
  obtain ⟨w6, hw6⟩ : ∃ w6, w5.drew = w6 := ⟨_, rfl⟩
  rw [hw6]
  have h56 : Below w5.heap.size w5 w6 := by rw [← hw6]; exact (Below.refl _ _).drew
  have hB6 : Below w.heap.size w w6 := HBW.out.trans (h56.mono HBW.out.size)
  have e6 := (h56.block _ (Array.getElem?_eq_some_iff.1 E6.out).1).trans E6.out
  have e4 := (h56.block _ (Array.getElem?_eq_some_iff.1 E4.out).1).trans E4.out
  have hlt66 : b6 < w6.heap.size := (Array.getElem?_eq_some_iff.1 e6).1
  have hne6 : w6.heap.size ≠ b6 := by omega
  have hne6' : b6 ≠ w6.heap.size := by omega
  have hsb6 : sb ≠ b6 := by omega
  have HB6 := Lib.hid hB6
  have E66 := Lib.hid e6
  have E64 := Lib.hid e4
  clear hw6 h56 hB6 k0 k1 k2 k3 i0 i1 i2 i3
  obtain ⟨k0, k1, k2, k3, i0, i1, i2, i3⟩ := box50 e6
  clear e6 e4
  go_wp2_with fail
  have hx7 : Only (fun j => j = b6) w6 ((w6.setCell ⟨b6, 2, none⟩ (.string ST)).setCell ⟨b6, 0, none⟩ (.slice (some ⟨w6.heap.size, 0, none⟩) 1 1)) := ((Only.refl (fun j => j = b6) w6).set (.inl rfl) 2 _).set (.inl rfl) 0 _
  have e67 := set_of (set_of E66.out 2 (.string ST)) 0 (.slice (some ⟨w6.heap.size, 0, none⟩) 1 1)
  obtain ⟨x7, hx⟩ : ∃ x7, (w6.setCell ⟨b6, 2, none⟩ (.string ST)).setCell ⟨b6, 0, none⟩ (.slice (some ⟨w6.heap.size, 0, none⟩) 1 1) = x7 := ⟨_, rfl⟩
  rw [hx] at hx7 e67 ⊢
  have hsx : x7.heap.size = w6.heap.size := by rw [← hx, szset, szset]
  have hsn := sl_new x7 (st ++ 46 :: a)
  rw [hsx, show (⟨(st ++ 46 :: a).toArray⟩ : ByteArray) = NE from HNE.out] at hsn
  have hba := below_alloc x7 (.cells #[.string NE] 9)
  have e47 := (hba.block b4 (by rw [hsx]; exact (Array.getElem?_eq_some_iff.1 E64.out).1)).trans ((hx7.block b4 (Array.getElem?_eq_some_iff.1 E64.out).1 hne).trans E64.out)
  have e67 := (hba.block b6 (by rw [hsx]; exact hlt66)).trans e67
  have hB7 : Below w.heap.size w (x7.alloc (.cells #[.string NE] 9)) := HB6.out.trans ((hx7.below (fun j e => by rw [e]; exact hge6) HB6.out.size).trans (hba.mono (by rw [hsx]; exact HB6.out.size)))
  obtain ⟨w7, hw7⟩ : ∃ w7, x7.alloc (.cells #[.string NE] 9) = w7 := ⟨_, rfl⟩
  rw [hw7] at hsn e47 e67 hB7 ⊢
  have HSN := Lib.hid hsn
  have HB7 := Lib.hid hB7
  have E47 := Lib.hid e47
  have E67 := Lib.hid e67
  have HBB : Hid (∀ b : Bw w7, Below w.heap.size w b.v) := fun b => HB7.out.trans (b.h.mono HB7.out.size)
  have K6 : Hid (∀ b : Bw w7, b.v.heap[b6]? = some (.cells [.slice (some ⟨w6.heap.size, 0, none⟩) 1 1, .slice ra 1 rcc, .string ST, .bool false].toArray 50 (0, 0))) := fun b => (b.h.block _ (Array.getElem?_eq_some_iff.1 E67.out).1).trans E67.out
  have c0 : ∀ b : Bw w7, b.v.cell? ⟨b6, 0, none⟩ = some (.slice (some ⟨w6.heap.size, 0, none⟩) 1 1) := fun b => cell_of (K6.out b) 0
  have c1 : ∀ b : Bw w7, b.v.cell? ⟨b6, 1, none⟩ = some (.slice ra 1 rcc) := fun b => cell_of (K6.out b) 1
  have c2 : ∀ b : Bw w7, b.v.cell? ⟨b6, 2, none⟩ = some (.string ST) := fun b => cell_of (K6.out b) 2
  have c3 : ∀ b : Bw w7, b.v.cell? ⟨b6, 3, none⟩ = some (.bool false) := fun b => cell_of (K6.out b) 3
  have d0 : ∀ b : Bw w7, b.v.cell? ⟨sb, 0, none⟩ = some (.slice ma mn mc) := fun b => (HQ0.out _ (HBB.out b)).1
  have d1 : ∀ b : Bw w7, b.v.cell? ⟨sb, 1, none⟩ = some (.slice va vn vc) := fun b => (HQ0.out _ (HBB.out b)).2.1
  have d4 : ∀ b : Bw w7, b.v.cell? ⟨sb, 4, none⟩ = some (.string TG) := fun b => (HQ0.out _ (HBB.out b)).2.2
  obtain ⟨kd, hkd⟩ : ∃ kd : Int, (if th = true then (1 : Int) else 0) = kd := ⟨_, rfl⟩
  rw [hkd] at HK1
  have HC1 : Hid (∀ b : Bw w7, Calls Tryd.prog 107 #[.pointer (some ⟨sb, 0, none⟩), .string NE] b.v fun e w' => e = .returned (.int .i64 kd) ∧ ∃ b' : Bw w7, w' = b'.v) := fun b => (HK1.out b.v (HBB.out b)).mono fun e w' ⟨he, hw⟩ => ⟨he, ⟨w', b.h.trans (hw.mono b.h.size)⟩, rfl⟩
  have HC2 : Hid (∀ b : Bw w7, Calls Tryd.prog 87 #[.agg #[.slice ma mn mc, .slice va vn vc], .string NE] b.v fun e w' => e = .returned (.bool false) ∧ ∃ b' : Bw w7, w' = b'.v) := fun b => (HK2.out b.v (HBB.out b)).mono fun e w' ⟨he, hw⟩ => ⟨he, ⟨w', b.h.trans (hw.mono b.h.size)⟩, rfl⟩
  have hnt2 : ¬ NE = TG := fun e => hnn (by rw [e])
  have hnt3 : (NE.toList == TG.toList) = false := by
    rw [beq_eq_false_iff_ne, Lib.toList_data, Lib.toList_data]; exact hnn
  have hfin : ∀ b : Bw w7, ∃ y : Sf w b6 b4 [.slice (some ⟨w6.heap.size, 0, none⟩) 1 1, .slice ra 1 rcc, .string ST, .bool false] [.slice (some ⟨w6.heap.size, 0, none⟩) 1 1, .slice ra 1 rcc, .string ST, .bool false] (.slice (some ⟨w6.heap.size, 0, none⟩) 1 1) [st ++ 46 :: a],
      ((((b.v.setCell ⟨b4, 0, none⟩ (.slice (some ⟨w6.heap.size, 0, none⟩) 1 1)).setCell ⟨b4, 1, none⟩ (.slice ra 1 rcc)).setCell ⟨b4, 2, none⟩ (.string ST)).setCell ⟨b4, 3, none⟩ (.bool false)) = y.v := fun b => by
    have hO : Only (fun j => j = b4) b.v ((((b.v.setCell ⟨b4, 0, none⟩ (.slice (some ⟨w6.heap.size, 0, none⟩) 1 1)).setCell ⟨b4, 1, none⟩ (.slice ra 1 rcc)).setCell ⟨b4, 2, none⟩ (.string ST)).setCell ⟨b4, 3, none⟩ (.bool false)) :=
      ((((Only.refl (fun j => j = b4) b.v).set (.inl rfl) 0 _).set (.inl rfl) 1 _).set (.inl rfl) 2 _ |>.set (.inl rfl) 3 _)
    have e4b := (b.h.block _ (Array.getElem?_eq_some_iff.1 E47.out).1).trans E47.out
    have hk := K6.out b
    exact ⟨⟨_, below_set (below_set (below_set (below_set (HBB.out b) hge _ _) hge _ _) hge _ _) hge _ _, (hO.block _ (Array.getElem?_eq_some_iff.1 hk).1 (fun e => hne e.symm)).trans hk, fin50 e4b _ _ _ _,
      (HSN.out.below b.h).only2 hO (fun g _ hg e => by
        have hg : w6.heap.size = g := by injection hg
        have hg4 : b4 < w6.heap.size := (Array.getElem?_eq_some_iff.1 E64.out).1
        omega)⟩, rfl⟩
  have HFIN := Lib.hid hfin
  have F4 : Hid (∀ b : Bw w7, b.v.heap[b4]? = some (.cells [.slice none 0 0, .slice none 0 0, .string ⟨#[]⟩, .bool false].toArray 50 (0, 0))) := fun b => (b.h.block _ (Array.getElem?_eq_some_iff.1 E47.out).1).trans E47.out
  have HSB : Hid (∀ y : Sf w b6 b4 [.slice (some ⟨w6.heap.size, 0, none⟩) 1 1, .slice ra 1 rcc, .string ST, .bool false] [.slice (some ⟨w6.heap.size, 0, none⟩) 1 1, .slice ra 1 rcc, .string ST, .bool false] (.slice (some ⟨w6.heap.size, 0, none⟩) 1 1) [st ++ 46 :: a], y.v.cell? ⟨sb, 0, none⟩ = some (.slice ma mn mc) ∧ y.v.cell? ⟨sb, 1, none⟩ = some (.slice va vn vc) ∧ y.v.cell? ⟨sb, 4, none⟩ = some (.string TG)) := fun y => HQ0.out _ y.bel
  have HD1 : Hid (∀ y : Sf w b6 b4 [.slice (some ⟨w6.heap.size, 0, none⟩) 1 1, .slice ra 1 rcc, .string ST, .bool false] [.slice (some ⟨w6.heap.size, 0, none⟩) 1 1, .slice ra 1 rcc, .string ST, .bool false] (.slice (some ⟨w6.heap.size, 0, none⟩) 1 1) [st ++ 46 :: a], Calls Tryd.prog 107 #[.pointer (some ⟨sb, 0, none⟩), .string NE] y.v fun e w' => e = .returned (.int .i64 kd) ∧ ∃ y' : Sf w b6 b4 [.slice (some ⟨w6.heap.size, 0, none⟩) 1 1, .slice ra 1 rcc, .string ST, .bool false] [.slice (some ⟨w6.heap.size, 0, none⟩) 1 1, .slice ra 1 rcc, .string ST, .bool false] (.slice (some ⟨w6.heap.size, 0, none⟩) 1 1) [st ++ 46 :: a], w' = y'.v) := fun y => (HK1.out y.v y.bel).mono fun e w' ⟨he, hw⟩ => ⟨he, y.on hw⟩
  have HD2 : Hid (∀ y : Sf w b6 b4 [.slice (some ⟨w6.heap.size, 0, none⟩) 1 1, .slice ra 1 rcc, .string ST, .bool false] [.slice (some ⟨w6.heap.size, 0, none⟩) 1 1, .slice ra 1 rcc, .string ST, .bool false] (.slice (some ⟨w6.heap.size, 0, none⟩) 1 1) [st ++ 46 :: a], Calls Tryd.prog 87 #[.agg #[.slice ma mn mc, .slice va vn vc], .string NE] y.v fun e w' => e = .returned (.bool false) ∧ ∃ y' : Sf w b6 b4 [.slice (some ⟨w6.heap.size, 0, none⟩) 1 1, .slice ra 1 rcc, .string ST, .bool false] [.slice (some ⟨w6.heap.size, 0, none⟩) 1 1, .slice ra 1 rcc, .string ST, .bool false] (.slice (some ⟨w6.heap.size, 0, none⟩) 1 1) [st ++ 46 :: a], w' = y'.v) := fun y => (HK2.out y.v y.bel).mono fun e w' ⟨he, hw⟩ => ⟨he, y.on hw⟩
  have hne0 : Nonempty (Sf w b6 b4 [.slice (some ⟨w6.heap.size, 0, none⟩) 1 1, .slice ra 1 rcc, .string ST, .bool false] [.slice (some ⟨w6.heap.size, 0, none⟩) 1 1, .slice ra 1 rcc, .string ST, .bool false] (.slice (some ⟨w6.heap.size, 0, none⟩) 1 1) [st ++ 46 :: a]) := by
    obtain ⟨y, _⟩ := hfin ⟨w7, Below.refl _ _⟩
    exact ⟨y⟩
  clear hx hw7 hsn e47 e67 hB7 hx7 hba hsx k0 k1 k2 k3 i0 i1 i2 i3 hfin
  cases th
  · have hk0 : kd = 0 := hkd.symm
    subst hk0
    refine wp_region_beside 1 20 1 90 (fun w' => ∃ b : Bw w7, w' = b.v) (fun w' => ∃ b : Sf w b6 b4 [.slice (some ⟨w6.heap.size, 0, none⟩) 1 1, .slice ra 1 rcc, .string ST, .bool false] [.slice (some ⟨w6.heap.size, 0, none⟩) 1 1, .slice ra 1 rcc, .string ST, .bool false] (.slice (some ⟨w6.heap.size, 0, none⟩) 1 1) [st ++ 46 :: a], w' = b.v) _ (by kernel_rfl) (by kernel_rfl) (by kernel_rfl) (by kernel_rfl) (Nat.le_refl 90) rfl (bwC_drawn _) ?_
    simp only [List.take_succ_cons, List.take_zero, List.drop_succ_cons, List.drop_zero]
    go_big_quiet_step (fail)
    refine wpQuiet_nil ?_
    repeat (go_big_quiet_step (first | with_reducible exact HC1.out _ | with_reducible exact HC2.out _))
    refine wpQuiet_nil ?_
    refine ⟨by kernel_rfl, ?_, ?_, ?_⟩
    · rintro x ⟨b, rfl⟩
      obtain ⟨y, hy⟩ := HFIN.out b
      refine ⟨_, ?_, y, hy⟩
      have f4 := F4.out b
      obtain ⟨m0, m1, m2, m3, n0, n1, n2, n3⟩ := box50 f4
      clear f4
      go_simp
    · clear c0 c1 c2 c3 d0 d1 d4
      have d0 := fun y => (HSB.out y).1
      have d1 := fun y => (HSB.out y).2.1
      have d4 := fun y => (HSB.out y).2.2
      repeat (go_big_quiet_step (first | with_reducible exact HD1.out _ | with_reducible exact HD2.out _))
      exact wpQuiet_nil rfl
    · rintro _ ⟨y, rfl⟩
      clear c0 c1 c2 c3 d0 d1 d4
      go_wp2_with fail
      refine wpQuiet_nil ?_
      go_wp2_with fail
      rw [← HQ.out]
      have he4 := y.e4
      refine bodyPost_ret (v := .tuple #[.agg #[.slice (some ⟨w6.heap.size, 0, none⟩) 1 1, .slice ra 1 rcc, .string ST, .bool false], .bool false]) ?_ rfl ?_
      · obtain ⟨k0, k1, k2, k3, _⟩ := box50 he4
        simp [results, Tryd.results82, go_sem, k0, k1, k2, k3]
        try rfl
      · exact ⟨_, _, rfl, ⟨_, _, _, rfl⟩, (fun _ => ⟨HST.out.symm, y.sn, fun g hg => by
          have hg : w6.heap.size = g := by injection hg
          have := HB6.out.size
          omega⟩), y.bel⟩
  · have hk0 : kd = 1 := hkd.symm
    subst hk0
    refine wp_region_beside 1 20 1 90 (fun w' => ∃ b : Bw w7, w' = b.v) (fun w' => ∃ b : Sf w b6 b4 [.slice (some ⟨w6.heap.size, 0, none⟩) 1 1, .slice ra 1 rcc, .string ST, .bool false] [.slice (some ⟨w6.heap.size, 0, none⟩) 1 1, .slice ra 1 rcc, .string ST, .bool false] (.slice (some ⟨w6.heap.size, 0, none⟩) 1 1) [st ++ 46 :: a], w' = b.v) _ (by kernel_rfl) (by kernel_rfl) (by kernel_rfl) (by kernel_rfl) (Nat.le_refl 90) rfl (bwC_drawn _) ?_
    simp only [List.take_succ_cons, List.take_zero, List.drop_succ_cons, List.drop_zero]
    go_big_quiet_step (fail)
    refine wpQuiet_nil ?_
    repeat (go_big_quiet_step (first | with_reducible exact HC1.out _ | with_reducible exact HC2.out _))
    refine wpQuiet_nil ?_
    refine ⟨by kernel_rfl, ?_, ?_, ?_⟩
    · rintro x ⟨b, rfl⟩
      obtain ⟨y, hy⟩ := HFIN.out b
      refine ⟨_, ?_, y, hy⟩
      have f4 := F4.out b
      obtain ⟨m0, m1, m2, m3, n0, n1, n2, n3⟩ := box50 f4
      clear f4
      go_simp
    · clear c0 c1 c2 c3 d0 d1 d4
      have d0 := fun y => (HSB.out y).1
      have d1 := fun y => (HSB.out y).2.1
      have d4 := fun y => (HSB.out y).2.2
      repeat (go_big_quiet_step (first | with_reducible exact HD1.out _ | with_reducible exact HD2.out _))
      exact wpQuiet_nil rfl
    · rintro _ ⟨y, rfl⟩
      clear c0 c1 c2 c3 d0 d1 d4
      go_wp2_with fail
      refine wpQuiet_nil ?_
      go_wp2_with fail
      rw [← HQ.out]
      have he4 := y.e4
      refine bodyPost_ret (v := .tuple #[.agg #[.slice (some ⟨w6.heap.size, 0, none⟩) 1 1, .slice ra 1 rcc, .string ST, .bool false], .bool true]) ?_ rfl ?_
      · obtain ⟨k0, k1, k2, k3, _⟩ := box50 he4
        simp [results, Tryd.results82, go_sem, k0, k1, k2, k3]
        try rfl
      · exact ⟨_, _, rfl, ⟨_, _, _, rfl⟩, (fun _ => ⟨HST.out.symm, y.sn, fun g hg => by
          have hg : w6.heap.size = g := by injection hg
          have := HB6.out.size
          omega⟩), y.bel⟩
end Go.Proofs.YtjagnihkpgbjeaaDoor

namespace Go.Proofs.YtjagnihkpgbjeaaDoor
open Go.RowKit Go.Maps Go.ChangeMaps
set_option linter.unusedVariables false
/-! run over a rule of two suffixes. -/
theorem rs_tail (a b : Bs) (li : Bool) (k : Nat) (h : k + 1 < (rsS a b li).length) : ((rsS a b li)[k + 1]).rc = [] := by
  cases li
  · simp [rsS, addS] at h
  · have hk : k = 0 := by simp [rsS, addS] at h; omega
    subst hk; rfl
def SufR (w : World) (sb : Nat) (st nd a b : Bs) (us : List Bs) (ok : Bool) : Prop := ∀ (w' : World), Below w.heap.size w w' → ∀ (tv nv rcv uv : Value), Rl3 w' tv nv rcv (ruS a b) → SlS w' uv us → Calls Tryd.prog 82 #[.pointer (some ⟨sb, 0, none⟩), .agg #[tv, nv, rcv], uv] w' (SufP ok st nd rcv w')
def finS (st nd : Bs) (ok : Bool) : Fit := if ok then ⟨st, [nd], [[114]], true⟩ else ⟨[], [], [], false⟩
set_option maxRecDepth 100000 in
set_option maxHeartbeats 8000000 in
theorem run_suf {w : World} (sb : Nat) (ms rv : Value) (rs : List Rl) (st nd a b : Bs) (us : List Bs) (ok : Bool) (wb : World) (hwb : Below wb.heap.size wb w) (hv0 : RsV wb rv rs) (hl : rs.length ≤ 1000) (hr0 : ∀ h : 0 < rs.length, rs[0] = ruS a b) (hr1 : ∀ k (h : k + 1 < rs.length), rs[k + 1].rc = []) (hpl : isPlainF (ruS a b) = true) (hsp : specialF rs sufB = us) (hsf : SufR w sb st nd a b us ok) (hlt : sb < w.heap.size)
    (q0 : w.cell? ⟨sb, 0, none⟩ = some ms) (q1 : w.cell? ⟨sb, 1, none⟩ = some rv) (hms : ∃ a n c, ms = .slice a n c) (hlen : 0 < rs.length) :
    Calls Tryd.prog 53 #[.pointer (some ⟨sb, 0, none⟩)] w (RunP wb.heap.size (finS st nd ok) w) := by
  have hv := hv0.below hwb
  have HWB := Lib.hid hwb
  obtain ⟨Q, hQ⟩ : ∃ Q, RunP wb.heap.size (finS st nd ok) w = Q := ⟨_, rfl⟩
  have HQ : Hid (∀ e w', RunP wb.heap.size (finS st nd ok) w e w' → Q e w') := fun e w' h => by rw [← hQ]; exact h
  rw [hQ]
  clear hQ
  obtain ⟨ma, mn, mc, rfl⟩ := hms
  have HSF := Lib.hid hsf
  unfold SufR at HSF
  obtain ⟨W, hW⟩ : ∃ W, w.alloc (.cells #[.slice none 0 0, .slice none 0 0, .string ⟨#[]⟩, .bool false] 50) = W := ⟨_, rfl⟩
  have hB : Below w.heap.size w W := hW ▸ below_alloc _ _
  have hblk : W.heap[w.heap.size]? = some (.cells [.slice none 0 0, .slice none 0 0, .string ⟨#[]⟩, .bool false].toArray 50 (0, 0)) := hW ▸ heap_alloc_new w _
  have hsz : w.heap.size < W.heap.size := by rw [← hW, size_alloc]; omega
  have HV := Lib.hid hv0
  have HS := Lib.hid (fun (w' : World) (hb : Below w.heap.size w w') => Special_any (.slice ma mn mc) rv rs ⟨#[46, 83, 85, 70, 70, 73, 88, 69, 83]⟩ w' (hv.below hb) hl)
  unfold SpecialP at HS
  rw [show specialF rs (⟨#[46, 83, 85, 70, 70, 73, 88, 69, 83]⟩ : ByteArray).data.toList = us from hsp] at HS
  have HC0 := Lib.hid (fun (w' : World) (hb : Below w.heap.size w w') => (hb.cell (p := ⟨sb, 0, none⟩) hlt).trans q0)
  have HC1 := Lib.hid (fun (w' : World) (hb : Below w.heap.size w w') => (hb.cell (p := ⟨sb, 1, none⟩) hlt).trans q1)
  obtain ⟨va, vc, rfl⟩ := hv.len
  obtain ⟨n, hn⟩ : ∃ n, rs.length = n := ⟨_, rfl⟩
  have HN := Lib.hid hn
  have HR0 := Lib.hid hr0
  have HR1 := Lib.hid hr1
  have HPL := Lib.hid hpl
  have HWW := Lib.hid hW
  have HB := Lib.hid hB
  have HBLK := Lib.hid hblk
  have HSZ := Lib.hid hsz
  have HLEN : Hid (0 < n) := by rw [Hid, ← hn]; exact hlen
  rw [hn] at hl HV HS q1 HC1
  clear hv hv0 hwb hr0 hr1 hpl hsp hsf hn hB hblk hsz hW hlen
  go_enter Tryd.func53, Tryd.ntmps53
  go_wp2_with fail
  rw [HWW.out]
  go_loopw [19] (fun i wr => ∃ k : Nat, k ≤ n ∧ i = .int .i64 k ∧ Hid (Below W.heap.size W wr)) (fun i _ => n - (intOf i).toNat)
  case atStart => exact ⟨0, Nat.zero_le _, rfl, Below.refl _ _⟩
  case round =>
    obtain ⟨k, hk, rfl, HX⟩ := hrel
    by_cases hlt : k < n
    · have hltI : (k : Int) < (n : Int) := by omega
      have h0 : (0 : Int) ≤ (k : Int) := by omega
      have hlr : k < rs.length := by rw [HN.out]; exact hlt
      obtain ⟨g, off, a0, n0, c0, a1, n1, c1, a2, n2, c2, rfl, q0, q1, q2, hr⟩ := HV.out.get2 (HWB.out.trans ((HB.out.trans (HX.out.mono HB.out.size)).mono HWB.out.size)) k hlr
      have hadd := addk3 g off k
      by_cases hk0 : k = 0
      · have er : rs[k] = ruS a b := by subst hk0; exact HR0.out hlr
        rw [er] at hr
        clear er hk0
        have hn2 : n2 = 1 := by
          obtain ⟨a', c', e⟩ := hr.k.len
          injection e
        subst hn2
        have HR3 := Lib.hid hr
        clear hr
        go_wp2_with (go_at_call 79; ((with_reducible refine (isPlain_any _ _ _ (ruS a b) _ (HR3.out.below (HWB.out.trans ((HB.out.trans ((HX.out.trans ((below_alloc _ _).mono HX.out.size)).mono HB.out.size)).mono HWB.out.size))) true HPL.out).mono ?_)); rintro e w5 ⟨rfl, h5⟩; have H5 : Hid (Below wr.heap.size wr w5) := below_trans (below_alloc _ _) h5; clear h5; simp only [])
        exact ⟨⟨k + 1, by omega, by go_num, HX.out.trans (H5.out.mono HX.out.size)⟩, by simp [intOf]; omega⟩
      · have er : rs[k].rc = [] := by
          obtain ⟨k1, rfl⟩ : ∃ k1, k = k1 + 1 := ⟨k - 1, by omega⟩
          exact HR1.out k1 hlr
        have hn2 : n2 = 0 := by
          obtain ⟨a', c', e⟩ := hr.k.len
          rw [er] at e
          injection e
        subst hn2
        have HR3 := Lib.hid hr
        clear hr er hk0
        go_wp2_with fail
        exact ⟨⟨k + 1, by omega, by go_num, HX.out.trans ((below_alloc _ _).mono HX.out.size)⟩, by simp [intOf]; omega⟩
    · have hltI : ¬ (k : Int) < (n : Int) := by omega
      have p0 := HC0.out _ (HB.out.trans (HX.out.mono HB.out.size))
      have p1 := HC1.out _ (HB.out.trans (HX.out.mono HB.out.size))
      go_wp2_with (go_at_call 81; refine (HS.out _ (HB.out.trans (HX.out.mono HB.out.size))).mono ?_; rintro e w1 ⟨u, rfl, h1⟩; have H1 := Lib.hid (HB.out.trans ((below_trans HX.out h1.old).mono HB.out.size)); have HBX := Lib.hid (((below_trans HX.out h1.old).block _ HSZ.out).trans HBLK.out); have HU := Lib.hid h1.sls; obtain ⟨ua, un, uc, rfl⟩ := sl_form h1.sls; clear h1; have p0 := HC0.out _ H1.out; have p1 := HC1.out _ H1.out; simp only [])
      have HL1 : Hid (w.heap.size < w1.heap.size) := (Array.getElem?_eq_some_iff.1 HBX.out).1
      go_loopw [52] (fun i wr => ∃ k : Nat, k ≤ n ∧ i = .int .i64 k ∧ Hid (Below w1.heap.size w1 wr) ∧ Hid (k = 0 ∨ ok = false)) (fun i _ => n - (intOf i).toNat)
      case atStart => exact ⟨0, Nat.zero_le _, rfl, Below.refl _ _, .inl rfl⟩
      case round =>
        obtain ⟨k, hk, rfl, HX, HOK⟩ := hrel
        by_cases hlt : k < n
        · have hltI : (k : Int) < (n : Int) := by omega
          have h0 : (0 : Int) ≤ (k : Int) := by omega
          have hlr : k < rs.length := by rw [HN.out]; exact hlt
          obtain ⟨g, off, a0, n0, c0, a1, n1, c1, a2, n2, c2, rfl, q0, q1, q2, hr⟩ := HV.out.get2 (HWB.out.trans ((H1.out.trans (HX.out.mono H1.out.size)).mono HWB.out.size)) k hlr
          have hadd := addk3 g off k
          by_cases hk0 : k = 0
          · have er : rs[k] = ruS a b := by subst hk0; exact HR0.out hlr
            rw [er] at hr
            clear er hk0
            have hn2 : n2 = 1 := by
              obtain ⟨a', c', e⟩ := hr.k.len
              injection e
            subst hn2
            have hn1 : n1 = 0 := by
              obtain ⟨a', c', e⟩ := hr.n.len
              injection e
            subst hn1
            have hn0 : n0 = 1 := by
              obtain ⟨a', c', e⟩ := hr.t.len
              injection e
            subst hn0
            have HR3 := Lib.hid hr
            have HBR : Hid (Below w.heap.size w wr) := H1.out.trans (HX.out.mono H1.out.size)
            clear hr
            cases ok with
            | false =>
              go_wp2_with (first
                | (go_at_call 79; ((with_reducible refine (isPlain_any _ _ _ (ruS a b) _ (HR3.out.below (HWB.out.trans ((HBR.out.trans ((below_alloc _ _).mono HBR.out.size)).mono HWB.out.size))) true HPL.out).mono ?_)); rintro e w5 ⟨rfl, h5⟩; have e5 := (h5.block _ (by rw [size_alloc]; exact Nat.lt_succ_self _)).trans (heap_alloc_new wr _); have x0 : w5.cell? ⟨wr.heap.size, 0, none⟩ = some (.slice a0 1 c0) := cell_of (cs := [.slice a0 1 c0, .slice a1 0 c1, .slice a2 1 c2]) e5 0; have x1 : w5.cell? ⟨wr.heap.size, 1, none⟩ = some (.slice a1 0 c1) := cell_of (cs := [.slice a0 1 c0, .slice a1 0 c1, .slice a2 1 c2]) e5 1; have x2 : w5.cell? ⟨wr.heap.size, 2, none⟩ = some (.slice a2 1 c2) := cell_of (cs := [.slice a0 1 c0, .slice a1 0 c1, .slice a2 1 c2]) e5 2; have H5 : Hid (Below wr.heap.size wr w5) := below_trans (below_alloc _ _) h5; clear h5 e5; simp only [])
                | (go_at_call 82; ((with_reducible refine (HSF.out _ (HBR.out.trans (H5.out.mono HBR.out.size)) _ _ _ _ (HR3.out.below (HWB.out.trans ((HBR.out.trans (H5.out.mono HBR.out.size)).mono HWB.out.size))) (HU.out.below (HX.out.trans (H5.out.mono HX.out.size)))).mono ?_)); rintro e w6 ⟨nv, sv, rfl, ⟨xa, xn, xc, rfl⟩, h6, h6b⟩; have H6 : Hid (Below wr.heap.size wr w6) := below_trans H5.out h6b; clear h6 h6b; simp only []))
              exact ⟨⟨k + 1, by omega, by go_num, HX.out.trans ((below_trans H6.out (below_alloc _ _)).mono HX.out.size), .inr trivial⟩, by simp [intOf]; omega⟩
            | true =>
              go_wp2_with (first
                | (go_at_call 79; ((with_reducible refine (isPlain_any _ _ _ (ruS a b) _ (HR3.out.below (HWB.out.trans ((HBR.out.trans ((below_alloc _ _).mono HBR.out.size)).mono HWB.out.size))) true HPL.out).mono ?_)); rintro e w5 ⟨rfl, h5⟩; have e5 := (h5.block _ (by rw [size_alloc]; exact Nat.lt_succ_self _)).trans (heap_alloc_new wr _); have x0 : w5.cell? ⟨wr.heap.size, 0, none⟩ = some (.slice a0 1 c0) := cell_of (cs := [.slice a0 1 c0, .slice a1 0 c1, .slice a2 1 c2]) e5 0; have x1 : w5.cell? ⟨wr.heap.size, 1, none⟩ = some (.slice a1 0 c1) := cell_of (cs := [.slice a0 1 c0, .slice a1 0 c1, .slice a2 1 c2]) e5 1; have x2 : w5.cell? ⟨wr.heap.size, 2, none⟩ = some (.slice a2 1 c2) := cell_of (cs := [.slice a0 1 c0, .slice a1 0 c1, .slice a2 1 c2]) e5 2; have H5 : Hid (Below wr.heap.size wr w5) := below_trans (below_alloc _ _) h5; clear h5 e5; simp only [])
                | (go_at_call 82; ((with_reducible refine (HSF.out _ (HBR.out.trans (H5.out.mono HBR.out.size)) _ _ _ _ (HR3.out.below (HWB.out.trans ((HBR.out.trans (H5.out.mono HBR.out.size)).mono HWB.out.size))) (HU.out.below (HX.out.trans (H5.out.mono HX.out.size)))).mono ?_)); rintro e w6 ⟨nv, sv, rfl, ⟨xa, xn, xc, rfl⟩, h6, h6b⟩; obtain ⟨hsv, hnv, hfr⟩ := h6 rfl; have HSV := Lib.hid hsv; have H6 : Hid (Below wr.heap.size wr w6) := below_trans H5.out h6b; have hz6 := ((HX.out.trans (H6.out.mono HX.out.size)).block _ HL1.out).trans HBX.out; have hlt5 : w.heap.size < w5.heap.size := Nat.lt_of_lt_of_le HL1.out (Nat.le_trans HX.out.size H5.out.size); obtain ⟨e8, f1, f2, f3⟩ := run_fin (sv := .string sv) hnv (HR3.out.k.below HWB.out) (HBR.out.trans (H6.out.mono HBR.out.size)) (Nat.le_refl _) (fun g hg e => absurd (hfr g hg) (e ▸ Nat.not_le_of_lt hlt5)) hz6 _ rfl; obtain ⟨z0, z1, z2, z3, y0, y1, y2, y3⟩ := box50 e8; have HFX := Lib.hid (fin50 (u0 := .slice xa xn xc) (u1 := .slice a2 1 c2) (u2 := .string sv) (u3 := .bool false) e8); have HNV := Lib.hid f1; have HRV := Lib.hid f2; have HOL := Lib.hid f3; clear hsv hz6 e8 f1 f2 f3 hnv h6 h6b hfr hlt5; simp only []))
              refine bodyPost_ret (v := .tuple #[.agg #[.slice xa xn xc, .slice a2 1 c2, .string sv, .bool false], .bool true]) ?_ rfl ?_
              · obtain ⟨k0, k1, k2, k3, _⟩ := box50 HFX.out
                simp [results, Tryd.results53, go_sem, k0, k1, k2, k3]
                try rfl
              · refine HQ.out _ _ ?_
                exact ⟨_, _, by rw [HSV.out]; rfl, HNV.out, HRV.out, HOL.out, HR3.out.k.blk_lt, fun h => by cases h⟩
          · have er : rs[k].rc = [] := by
              obtain ⟨k1, rfl⟩ : ∃ k1, k = k1 + 1 := ⟨k - 1, by omega⟩
              exact HR1.out k1 hlr
            have hn2 : n2 = 0 := by
              obtain ⟨a', c', e⟩ := hr.k.len
              rw [er] at e
              injection e
            subst hn2
            have HR3 := Lib.hid hr
            have HOF : Hid (ok = false) := HOK.out.resolve_left hk0
            clear hr er hk0
            go_wp2_with fail
            exact ⟨⟨k + 1, by omega, by go_num, HX.out.trans ((below_alloc _ _).mono HX.out.size), .inr HOF.out⟩, by simp [intOf]; omega⟩
        · have hltI : ¬ (k : Int) < (n : Int) := by omega
          have HOF : Hid (ok = false) := HOK.out.resolve_left (by have := HLEN.out; omega)
          have hbx := (HX.out.block _ (World.block_lt_of_cell? _ _ (cell_of HBX.out 0))).trans HBX.out
          obtain ⟨z0, z1, z2, z3, y0, y1, y2, y3⟩ := box50 hbx
          have HFX := Lib.hid (fin50 (u0 := .slice none 0 0) (u1 := .slice none 0 0) (u2 := .string ⟨#[]⟩) (u3 := .bool false) hbx)
          have HOL : Hid (Below w.heap.size w wr) := H1.out.trans (HX.out.mono H1.out.size)
          clear hbx
          go_wp2_with fail
          have hf := HFX.out
          refine bodyPost_ret (v := .tuple #[.agg #[.slice none 0 0, .slice none 0 0, .string ⟨#[]⟩, .bool false], .bool false]) ?_ rfl ?_
          · obtain ⟨k0, k1, k2, k3, _⟩ := box50 hf
            simp [results, Tryd.results53, go_sem, k0, k1, k2, k3]
            try rfl
          · refine HQ.out _ _ ?_
            rw [HOF.out]
            exact ⟨_, _, rfl, .inl ⟨rfl, rfl⟩, .inl ⟨rfl, rfl⟩, below_set (below_set (below_set (below_set HOL.out (Nat.le_refl _) _ _) (Nat.le_refl _) _ _) (Nat.le_refl _) _ _) (Nat.le_refl _) _ _, fun g hg => (by cases hg), fun _ => ⟨rfl, rfl⟩⟩
end Go.Proofs.YtjagnihkpgbjeaaDoor

namespace Go.Proofs.YtjagnihkpgbjeaaDoor
open Go.RowKit Go.Maps Go.ChangeMaps
set_option linter.unusedVariables false
/-! Plan over a rule of two suffixes. -/
structure SfxOk (st a b : Bs) : Prop where
  ls : Low st
  la : Low a
  lb : Low b
  s0 : st ≠ []
  a0 : a ≠ []
  b0 : b ≠ []
  ne : a ≠ b
  le : st.length + a.length + b.length ≤ 60
theorem suf_any {w : World} {B N f : Nat} {c : Cn} {T : Tr} {F : Nat → Prop} (hF : Fs w B N f c T F) (hm : Hm w) (ms rv : Value) (st a b : Bs) (li th : Bool) (hk : SfxOk st a b) (hv : RsV w rv (rsS a b li)) (hms : ∃ a n c, ms = .slice a n c) (hkd : kdF T (st ++ 46 :: a) = if th then 1 else 0)
    (w' : World) (hb : Below w.heap.size w w') (sb : Nat) (hlt : sb < w'.heap.size) (q0 : w'.cell? ⟨sb, 0, none⟩ = some ms) (q1 : w'.cell? ⟨sb, 1, none⟩ = some rv) (q2 : w'.cell? ⟨sb, 2, none⟩ = some (.pointer (some ⟨f, 0, none⟩))) (q3 : w'.cell? ⟨sb, 3, none⟩ = some (.string ⟨#[47]⟩)) (q4 : w'.cell? ⟨sb, 4, none⟩ = some (.string (nameB (st ++ 46 :: b)))) :
    Calls Tryd.prog 53 #[.pointer (some ⟨sb, 0, none⟩)] w' (RunP w.heap.size (finS st (st ++ 46 :: a) (li && th)) w') := by
  refine run_suf sb ms rv (rsS a b li) st (st ++ 46 :: a) a b (sfx a b li) (li && th) w hb hv (by have := rsS_len a b li; omega) (fun _ => rfl) (fun k h => rs_tail a b li k h) (plain_ru hk.la hk.lb) (special_rs hk.la hk.a0 li) ?_ hlt q0 q1 hms (by simp [rsS])
  intro w2 h2 tv nv rcv uv h3 hu
  have hh := head_low (t := 46 :: a) hk.ls hk.s0
  cases li
  · exact suf_none w2 sb st a b tv nv rcv uv h3 hu hk.la hk.lb hk.a0 hk.b0 (by have := hk.le; omega) st (st ++ 46 :: a)
  · have hh' := hb.trans (h2.mono hb.size)
    exact suf_two (hF.below hh') (hm.below hh') sb (Nat.lt_of_lt_of_le hlt h2.size) st a b tv nv rcv uv ms rv (rsS a b true) h3 hu hk.ls hk.la hk.lb hk.s0 hk.a0 hk.b0 hk.ne hk.le
      ((h2.cell (p := ⟨sb, 0, none⟩) hlt).trans q0) ((h2.cell (p := ⟨sb, 1, none⟩) hlt).trans q1) ((h2.cell (p := ⟨sb, 2, none⟩) hlt).trans q2) ((h2.cell (p := ⟨sb, 3, none⟩) hlt).trans q3) ((h2.cell (p := ⟨sb, 4, none⟩) hlt).trans q4)
      (hv.below hh') (by have := rsS_len a b true; omega) hms (known_no true hh) th hkd
def PlanS (F : Fit) (w : World) (e : Ending) (w' : World) : Prop := ∃ nv rv, e = .returned (.agg #[nv, rv, .string (nameB F.st), .bool F.ok]) ∧ SlS w' nv F.ns ∧ SlS w' rv F.rc ∧ Below w.heap.size w w'
theorem Plan_suf {w : World} {B N f : Nat} {c : Cn} {T : Tr} {F : Nat → Prop} (hF : Fs w B N f c T F) (hm : Hm w) (ms rv : Value) (st a b : Bs) (li th : Bool) (hk : SfxOk st a b) (hv : RsV w rv (rsS a b li)) (hms : ∃ a n c, ms = .slice a n c) (hkd : kdF T (st ++ 46 :: a) = if th then 1 else 0) :
    Calls Tryd.prog 27 #[.agg #[ms, rv], .pointer (some ⟨f, 0, none⟩), .string ⟨#[47]⟩, .string (nameB (st ++ 46 :: b))] w (PlanS (finS st (st ++ 46 :: a) (li && th)) w) := by
  have hh := head_low (t := 46 :: b) hk.ls hk.s0
  have hpl := plainF_no (a := a) (b := b) li hh
  have hlen := rsS_len a b li
  have HR := suf_any hF hm ms rv st a b li th hk hv hms hkd
  cases hok : (li && th) with
  | true =>
    rw [hok] at HR
    refine (Plan_run f ms rv (rsS a b li) (st ++ 46 :: b) st (st ++ 46 :: a) [[114]] hv (by omega) hms hh hpl (by simp) ?_).mono ?_
    · intro sb w' hb hlt q0 q1 q2 q3 q4
      refine (HR w' hb sb hlt q0 q1 q2 q3 q4).mono ?_
      rintro e w'' ⟨nv, rcv, h1, h2, h3, h4, h5, _⟩
      exact ⟨nv, rcv, h1, h2, h3, h4, h5⟩
    · rintro e w' ⟨nv, rcv, h1, h2, h3, h4⟩
      exact ⟨nv, rcv, h1, h2, h3, h4⟩
  | false =>
    rw [hok] at HR
    have := Plan_gen f ⟨#[47]⟩ (nameB (st ++ 46 :: b)) ms rv (rsS a b li) w hv (by omega) (rsS_few a b li) (by rw [nameB_list]; exact hh) hms (.inr (fun sb w' hb hlt q0 q1 q2 q3 q4 => by
      refine (HR w' hb sb hlt q0 q1 q2 q3 q4).mono ?_
      rintro e w'' ⟨nv, rcv, h1, _, _, h4, _, h6⟩
      obtain ⟨rfl, rfl⟩ := h6 rfl
      exact ⟨h1, h4⟩))
    rw [nameB_list, hpl] at this
    refine this.mono ?_
    rintro e w' ⟨nv, rcv, h1, h2, h3, h4, _⟩
    exact ⟨nv, rcv, h1, h2, h3, h4⟩
end Go.Proofs.YtjagnihkpgbjeaaDoor
