import Derived.Test.YtjagnihkpgbjeaaDoorJD
namespace Go.Proofs.YtjagnihkpgbjeaaDoor
open Go.RowKit Go.Maps Go.ChangeMaps
set_option linter.unusedVariables false
/-! Plan of a target that no plain rule makes and that a pattern fits. -/
def PlanH (F : Fit) (w : World) (e : Ending) (w' : World) : Prop := ∃ nv rv, e = .returned (.agg #[nv, rv, .string (nameB F.st), .bool F.ok]) ∧ SlS w' nv F.ns ∧ SlS w' rv F.rc ∧ Below w.heap.size w w'
/-- Behind run: the boxes, the fit's lists. -/
structure PF (w w5 : World) (b9 b8 b13 : Nat) (nv rv sv : Value) (ns rc : List Bs) : Prop where
  z9 : w5.heap[b9]? = some (.cells [.slice none 0 0, .slice none 0 0, .string ⟨#[]⟩, .bool false].toArray 50 (0, 0))
  z8 : w5.heap[b8]? = some (.cells [.slice none 0 0, .slice none 0 0, .string ⟨#[]⟩, .bool false].toArray 50 (0, 0))
  z13 : w5.heap[b13]? = some (.cells [nv, rv, sv, .bool false].toArray 50 (0, 0))
  n : SlS w5 nv ns
  r : SlS w5 rv rc
  old : Below w.heap.size w w5
  rg : ∀ g, rv.ownBlock = some g → g < w.heap.size
structure PG (w w6 : World) (b9 b8 b13 : Nat) (nv v' rv sv : Value) (ns rc : List Bs) : Prop where
  z9 : w6.heap[b9]? = some (.cells [.slice none 0 0, .slice none 0 0, .string ⟨#[]⟩, .bool false].toArray 50 (0, 0))
  z8 : w6.heap[b8]? = some (.cells [.slice none 0 0, .slice none 0 0, .string ⟨#[]⟩, .bool false].toArray 50 (0, 0))
  z13 : w6.heap[b13]? = some (.cells [nv, rv, sv, .bool false].toArray 50 (0, 0))
  n : SlS w6 v' ns
  r : SlS w6 rv rc
  old : Below w.heap.size w w6
  rg : ∀ g, rv.ownBlock = some g → g < w.heap.size
  ng : ∀ g, v'.ownBlock = some g → g ≠ b9 ∧ g ≠ b8
theorem pf_mk {w wr w5 : World} {b9 b8 : Nat} {nv rv : Value} {ns rc : List Bs} (h0 : Below w.heap.size w wr) (h5 : Below wr.heap.size wr w5) (hn : SlS w5 nv ns) (hr : SlS w5 rv rc) (hg : ∀ g, rv.ownBlock = some g → g < w.heap.size)
    (z9 : wr.heap[b9]? = some (.cells [.slice none 0 0, .slice none 0 0, .string ⟨#[]⟩, .bool false].toArray 50 (0, 0))) (z8 : wr.heap[b8]? = some (.cells [.slice none 0 0, .slice none 0 0, .string ⟨#[]⟩, .bool false].toArray 50 (0, 0))) (sv : Value) :
    PF w (w5.alloc (.cells #[nv, rv, sv, .bool false] 50)) b9 b8 w5.heap.size nv rv sv ns rc := by
  have ha := below_alloc w5 (.cells #[nv, rv, sv, .bool false] 50)
  have hz := below_trans h5 ha
  exact ⟨(hz.block _ (Array.getElem?_eq_some_iff.1 z9).1).trans z9, (hz.block _ (Array.getElem?_eq_some_iff.1 z8).1).trans z8, heap_alloc_new w5 _, hn.below ha, hr.below ha, h0.trans (hz.mono h0.size), hg⟩
theorem PF.add {w w5 : World} {b9 b8 b13 : Nat} {nv rv sv : Value} {ns rc : List Bs} (h : PF w w5 b9 b8 b13 nv rv sv ns rc) (hl : ns.length ≤ 1000) :
    Calls Tryd.prog 52 #[.slice none 0 0, nv] w5 fun e w6 => ∃ v', e = .returned v' ∧ PG w w6 b9 b8 b13 nv v' rv sv (addF [] ns) rc := by
  refine (addS_any w5.heap.size (fun _ => False) (.slice none 0 0) nv [] ns w5 (Nat.le_refl _) (World.ownsRow_nil _ _ _ _) (fun g hg => by cases hg) (fun w' ho => h.n.only2 ho (fun _ _ _ e => e)) (by simp; omega)).mono ?_
  rintro e w6 ⟨v', rfl, ha⟩
  have l9 := (Array.getElem?_eq_some_iff.1 h.z9).1
  have l8 := (Array.getElem?_eq_some_iff.1 h.z8).1
  have l13 := (Array.getElem?_eq_some_iff.1 h.z13).1
  have hb : Below w5.heap.size w5 w6 := (Below.refl _ _).trans (ha.oth.below (fun _ e => e.elim) (Nat.le_refl _))
  exact ⟨v', rfl, (ha.oth.block _ l9 (fun e => e)).trans h.z9, (ha.oth.block _ l8 (fun e => e)).trans h.z8, (ha.oth.block _ l13 (fun e => e)).trans h.z13, SlS.own ha.own, h.r.below hb, h.old.trans (hb.mono h.old.size), h.rg, fun g hg => by have := (ha.own.lt g hg).1; exact ⟨by omega, by omega⟩⟩
structure PH (w w7 : World) (b9 b8 : Nat) (nv rv sv : Value) (ns rc : List Bs) : Prop where
  z9 : w7.heap[b9]? = some (.cells [nv, rv, sv, .bool true].toArray 50 (0, 0))
  z8 : w7.heap[b8]? = some (.cells [.slice none 0 0, .slice none 0 0, .string ⟨#[]⟩, .bool false].toArray 50 (0, 0))
  n : SlS w7 nv ns
  r : SlS w7 rv rc
  old : Below w.heap.size w w7
  ng : ∀ g, nv.ownBlock = some g → g ≠ b9 ∧ g ≠ b8
theorem PG.set {w w6 : World} {b9 b8 b13 : Nat} {nv v' rv sv : Value} {ns rc : List Bs} (h : PG w w6 b9 b8 b13 nv v' rv sv ns rc) (hne : b8 ≠ b9) (hge : w.heap.size ≤ b9) :
    PH w ((((w6.setCell ⟨b9, 0, none⟩ v').setCell ⟨b9, 1, none⟩ rv).setCell ⟨b9, 2, none⟩ sv).setCell ⟨b9, 3, none⟩ (.bool true)).drew b9 b8 v' rv sv ns rc := by
  have hO : Only (fun j => j = b9) w6 ((((w6.setCell ⟨b9, 0, none⟩ v').setCell ⟨b9, 1, none⟩ rv).setCell ⟨b9, 2, none⟩ sv).setCell ⟨b9, 3, none⟩ (.bool true)) :=
    ((((Only.refl (fun j => j = b9) w6).set (.inl rfl) 0 _).set (.inl rfl) 1 _).set (.inl rfl) 2 _ |>.set (.inl rfl) 3 _)
  have hd : ∀ x : World, Below x.heap.size x x.drew := fun x => (Below.refl _ x).drew
  exact ⟨fin50 h.z9 _ _ _ _, (hO.block _ (Array.getElem?_eq_some_iff.1 h.z8).1 hne).trans h.z8, (h.n.only2 hO (fun g _ hg e => (h.ng g hg).1 e)).below (hd _), (h.r.only2 hO (fun g _ hg e => by have := h.rg g hg; omega)).below (hd _), below_trans (below_set (below_set (below_set (below_set h.old hge _ _) hge _ _) hge _ _) hge _ _) (hd _), h.ng⟩
theorem PH.fin {w w7 w8 : World} {b9 b8 : Nat} {nv rv sv v2 : Value} {ns rc : List Bs} (h : PH w w7 b9 b8 nv rv sv ns rc) (hv : StrO w7 w8 v2 rc) (hne : b8 ≠ b9) (h8 : w.heap.size ≤ b8) (h9 : w.heap.size ≤ b9) :
    w8.heap[b9]? = some (.cells [nv, rv, sv, .bool true].toArray 50 (0, 0)) ∧ w8.heap[b8]? = some (.cells [.slice none 0 0, .slice none 0 0, .string ⟨#[]⟩, .bool false].toArray 50 (0, 0)) ∧
    (((((w8.setCell ⟨b9, 1, none⟩ v2).setCell ⟨b8, 0, none⟩ nv).setCell ⟨b8, 1, none⟩ v2).setCell ⟨b8, 2, none⟩ sv).setCell ⟨b8, 3, none⟩ (.bool true)).heap[b8]? = some (.cells [nv, v2, sv, .bool true].toArray 50 (0, 0)) ∧
    SlS (((((w8.setCell ⟨b9, 1, none⟩ v2).setCell ⟨b8, 0, none⟩ nv).setCell ⟨b8, 1, none⟩ v2).setCell ⟨b8, 2, none⟩ sv).setCell ⟨b8, 3, none⟩ (.bool true)) nv ns ∧
    SlS (((((w8.setCell ⟨b9, 1, none⟩ v2).setCell ⟨b8, 0, none⟩ nv).setCell ⟨b8, 1, none⟩ v2).setCell ⟨b8, 2, none⟩ sv).setCell ⟨b8, 3, none⟩ (.bool true)) v2 rc ∧
    Below w.heap.size w (((((w8.setCell ⟨b9, 1, none⟩ v2).setCell ⟨b8, 0, none⟩ nv).setCell ⟨b8, 1, none⟩ v2).setCell ⟨b8, 2, none⟩ sv).setCell ⟨b8, 3, none⟩ (.bool true)) := by
  have l9 := (Array.getElem?_eq_some_iff.1 h.z9).1
  have l8 := (Array.getElem?_eq_some_iff.1 h.z8).1
  have e9 := (hv.old.block _ l9).trans h.z9
  have e8 := (hv.old.block _ l8).trans h.z8
  have hO : Only (fun j => j = b9 ∨ j = b8) w8 (((((w8.setCell ⟨b9, 1, none⟩ v2).setCell ⟨b8, 0, none⟩ nv).setCell ⟨b8, 1, none⟩ v2).setCell ⟨b8, 2, none⟩ sv).setCell ⟨b8, 3, none⟩ (.bool true)) :=
    ((((Only.refl (fun j => j = b9 ∨ j = b8) w8).set (.inl (.inl rfl)) 1 _).set (.inl (.inr rfl)) 0 _).set (.inl (.inr rfl)) 1 _).set (.inl (.inr rfl)) 2 _ |>.set (.inl (.inr rfl)) 3 _
  have hb8 : (w8.setCell ⟨b9, 1, none⟩ v2).heap[b8]? = some (.cells [.slice none 0 0, .slice none 0 0, .string ⟨#[]⟩, .bool false].toArray 50 (0, 0)) := by
    rw [Below.heap_setCell _ _ _ _ (by show b8 ≠ b9; exact hne)]; exact e8
  have hB : Below w.heap.size w w8 := below_trans h.old hv.old
  exact ⟨e9, e8, fin50 hb8 _ _ _ _, (h.n.below hv.old).only2 hO (fun g _ hg e => by rcases e with e | e; exact (h.ng g hg).1 e; exact (h.ng g hg).2 e), hv.sls.only2 hO (fun g _ hg e => by have := (hv.own.lt g hg).1; rcases e with e | e <;> omega), below_set (below_set (below_set (below_set (below_set hB h9 _ _) h8 _ _) h8 _ _) h8 _ _) h8 _ _⟩
set_option maxRecDepth 100000 in
set_option maxHeartbeats 8000000 in
theorem Plan_hit {w : World} {B N f : Nat} {c : Cn} {T : Tr} {F : Nat → Prop} (hF : Fs w B N f c T F) (hm : Hm w) (ms v : Value) (rs : List Rl) (st back : Bs) (hv : RsV w v rs) (hl : rs.length ≤ 1000) (hrc : ∀ r ∈ rs, r.rc = [] ∨ PatOk st back r) (hst : st ≠ []) (hl1 : st.length + back.length ≤ 10000) (hms : ∃ a n c, ms = .slice a n c)
    (htg : (st ++ back).head? ≠ some 46) (hpl : plainF rs (st ++ back) = []) (r : Rl) (hhit : rs.find? (fitF T rs st) = some r) (hrl : r.rc.length ≤ 100000) :
    Calls Tryd.prog 27 #[.agg #[ms, v], .pointer (some ⟨f, 0, none⟩), .string ⟨#[47]⟩, .string (nameB (st ++ back))] w (PlanH ⟨st, [needF st r], r.rc, true⟩ w) := by
  obtain ⟨am, nm, cm, rfl⟩ := hms
  have HSP := Lib.hid (fun w => special_no (nameB (st ++ back)) w (by rw [nameB_list]; exact htg))
  have HPL := Lib.hid (fun (w' : World) (hb : Below w.heap.size w w') => plain_any (.slice am nm cm) v rs (nameB (st ++ back)) w w' hv hb hl)
  unfold PlainP at HPL
  rw [nameB_list, hpl] at HPL
  have HRN := Lib.hid (fun (sb : Nat) (w' : World) (hb : Below w.heap.size w w') (hlt : sb < w'.heap.size) (q0 : w'.cell? ⟨sb, 0, none⟩ = some (.slice am nm cm)) (q1 : w'.cell? ⟨sb, 1, none⟩ = some v) (q2 : w'.cell? ⟨sb, 2, none⟩ = some (.pointer (some ⟨f, 0, none⟩))) (q3 : w'.cell? ⟨sb, 3, none⟩ = some (.string ⟨#[47]⟩)) (q4 : w'.cell? ⟨sb, 4, none⟩ = some (.string (nameB (st ++ back)))) => (show Calls Tryd.prog 53 #[.pointer (some ⟨sb, 0, none⟩)] w' fun e w'' => ∃ nv rv, e = .returned (.tuple #[.agg #[nv, rv, .string (nameB st), .bool false], .bool true]) ∧ SlS w'' nv [needF st r] ∧ SlS w'' rv r.rc ∧ Below w'.heap.size w' w'' ∧ ∀ g, rv.ownBlock = some g → g < w.heap.size from by
    have := run_pats (hF.below hb) (hm.below hb) sb (.slice am nm cm) v rs st back w hb hv hl hrc hst hl1 hlt q0 q1 q2 q3 q4 ⟨_, _, _, rfl⟩
    rw [hhit] at this
    exact this.mono (fun e w'' ⟨nv, rv, h1, h2, h3, h4, h5, _⟩ => ⟨nv, rv, h1, h2, h3, h4, h5⟩)))
  obtain ⟨a, n0, c, rfl⟩ : ∃ a n c, v = .slice a n c := by obtain ⟨a, c, rfl⟩ := hv.len; exact ⟨_, _, _, rfl⟩
  obtain ⟨TG, hTG⟩ : ∃ TG, nameB (st ++ back) = TG := ⟨_, rfl⟩
  obtain ⟨ST, hST⟩ : ∃ ST, nameB st = ST := ⟨_, rfl⟩
  rw [hTG] at HSP HPL HRN ⊢
  rw [hST] at HRN
  have HST := Lib.hid hST
  obtain ⟨W0, hW0⟩ : ∃ W0, ((w.alloc (.cells #[.slice am nm cm, .slice a n0 c] 45)).alloc (.cells #[.slice none 0 0, .slice none 0 0, .string ⟨#[]⟩, .bool false] 50)).alloc (.cells #[.slice none 0 0, .slice none 0 0, .string ⟨#[]⟩, .bool false] 50) = W0 := ⟨_, rfl⟩
  have HW0 := Lib.hid hW0
  have HRL := Lib.hid hrl
  clear hv htg hrc hpl hhit hl hW0 hTG hST hF hm hst hl1 hrl
  go_enter Tryd.func27, Tryd.ntmps27
  go_wp2_with (go_at_call 50; refine (HSP.out _).mono ?_; rintro e w1 ⟨rfl, h1⟩; obtain rfl := h1.symm; simp only [])
  go_wp2_with fail
  rw [HW0.out]
  have hB0 : Below w.heap.size w W0 := by
    rw [← HW0.out]
    exact below_trans (below_alloc _ _) (below_trans (below_alloc _ _) (below_alloc _ _))
  have hs0 : W0.heap.size = w.heap.size + 1 + 1 + 1 := by rw [← HW0.out, size_alloc, size_alloc, size_alloc]
  have z9 : W0.heap[w.heap.size + 1 + 1]? = some (.cells [.slice none 0 0, .slice none 0 0, .string ⟨#[]⟩, .bool false].toArray 50 (0, 0)) := by
    rw [← HW0.out]
    have := heap_alloc_new ((w.alloc (.cells #[.slice am nm cm, .slice a n0 c] 45)).alloc (.cells #[.slice none 0 0, .slice none 0 0, .string ⟨#[]⟩, .bool false] 50)) (.cells #[.slice none 0 0, .slice none 0 0, .string ⟨#[]⟩, .bool false] 50)
    rw [size_alloc, size_alloc] at this
    exact this
  have z8 : W0.heap[w.heap.size + 1]? = some (.cells [.slice none 0 0, .slice none 0 0, .string ⟨#[]⟩, .bool false].toArray 50 (0, 0)) := by
    rw [← HW0.out, Below.heap_alloc _ _ _ (by rw [size_alloc, size_alloc]; omega)]
    have := heap_alloc_new (w.alloc (.cells #[.slice am nm cm, .slice a n0 c] 45)) (.cells #[.slice none 0 0, .slice none 0 0, .string ⟨#[]⟩, .bool false] 50)
    rw [size_alloc] at this
    exact this
  have z4 : W0.heap[w.heap.size]? = some (.cells #[.slice am nm cm, .slice a n0 c] 45) := by
    rw [← HW0.out, Below.heap_alloc _ _ _ (by rw [size_alloc, size_alloc]; omega), Below.heap_alloc _ _ _ (by rw [size_alloc]; omega)]
    exact heap_alloc_new w _
  have HB0 := Lib.hid hB0
  have HS0 := Lib.hid hs0
  have HZ9 := Lib.hid z9
  have HZ8 := Lib.hid z8
  have HZ4 := Lib.hid z4
  clear hB0 hs0 z9 z8 z4
  refine (HPL.out _ HB0.out).mono ?_
  rintro e w1 ⟨u, rfl, h1⟩
  have H1 := Lib.hid h1.old
  obtain ⟨ua, uc, hu⟩ := (h1.rsv HB0.out).len
  have hu : u = .slice ua 0 uc := hu
  subst hu
  clear h1
  obtain ⟨b9, hb9⟩ : ∃ b9, w.heap.size + 1 + 1 = b9 := ⟨_, rfl⟩
  obtain ⟨b8, hb8⟩ : ∃ b8, w.heap.size + 1 = b8 := ⟨_, rfl⟩
  rw [hb9] at HZ9
  rw [hb8] at HZ8
  have HZ9' := Lib.hid ((H1.out.block _ (Array.getElem?_eq_some_iff.1 HZ9.out).1).trans HZ9.out)
  have HZ8' := Lib.hid ((H1.out.block _ (Array.getElem?_eq_some_iff.1 HZ8.out).1).trans HZ8.out)
  have HZ4' := Lib.hid ((H1.out.block _ (Array.getElem?_eq_some_iff.1 HZ4.out).1).trans HZ4.out)
  have HBW : Hid (Below w.heap.size w w1) := HB0.out.trans (H1.out.mono HB0.out.size)
  have hne89 : b8 ≠ b9 := by omega
  have hne98 : b9 ≠ b8 := by omega
  have hge : w.heap.size ≤ b8 ∧ w.heap.size ≤ b9 := by omega
  simp only [hb9]
  simp only [hb8]
  clear HB0 HS0 HZ9 HZ8 HZ4 H1
  go_wp2_with fail
  go_loopw [22] (fun i wr => i = .int .i64 0 ∧ wr = w1) (fun i _ => 0)
  case atStart => exact ⟨rfl, rfl⟩
  case round =>
    obtain ⟨rfl, hwr⟩ := hrel
    subst hwr
    obtain ⟨k0, k1, k2, k3, i0, i1, i2, i3⟩ := box50 HZ9'.out
    have p0 : wr.cell? ⟨w.heap.size, 0, none⟩ = some (.slice am nm cm) := cell_of (cs := [.slice am nm cm, .slice a n0 c]) HZ4'.out 0
    have p1 : wr.cell? ⟨w.heap.size, 1, none⟩ = some (.slice a n0 c) := cell_of (cs := [.slice am nm cm, .slice a n0 c]) HZ4'.out 1
    have HA9 := Lib.hid (below_alloc wr (.cells #[.slice am nm cm, .slice a n0 c, .pointer (some ⟨f, 0, none⟩), .string ⟨#[47]⟩, .string TG] 91))
    go_wp2_with (first
      | (go_at_call 53; refine (HRN.out wr.heap.size _ (HBW.out.trans (HA9.out.mono HBW.out.size)) (by rw [size_alloc]; omega) (by rw [cell_new]; rfl) (by rw [cell_new]; rfl) (by rw [cell_new]; rfl) (by rw [cell_new]; rfl) (by rw [cell_new]; rfl)).mono ?_; rintro e w5 ⟨nv, rv, rfl, hnv, hrv, h5, hrg⟩; obtain ⟨na, nn, nc, rfl⟩ := sl_form hnv; obtain ⟨ra, rn, rc, rfl⟩ := sl_form hrv; have HPF := Lib.hid (pf_mk HBW.out (below_trans HA9.out h5) hnv hrv hrg HZ9'.out HZ8'.out (.string ST)); obtain ⟨k0, k1, k2, k3, i0, i1, i2, i3⟩ := box50 HPF.out.z9; have e13 := box50 HPF.out.z13; obtain ⟨m0, m1, m2, m3, _⟩ := e13; have H95 : Hid (b9 < w5.heap.size) := Nat.lt_of_lt_of_le (Array.getElem?_eq_some_iff.1 HZ9'.out).1 (below_trans HA9.out h5).size; clear hnv hrv h5 hrg; simp only [])
      | (go_at_call 52; ((with_reducible refine (HPF.out.add (by simp)).mono ?_)); rintro e w6 ⟨v', rfl, h6⟩; have HAD := Lib.hid h6; obtain ⟨va, vn, vc, rfl⟩ := sl_form h6.n; obtain ⟨k0, k1, k2, k3, i0, i1, i2, i3⟩ := box50 h6.z9; obtain ⟨m0, m1, m2, m3, _⟩ := box50 h6.z13; clear h6; simp only []))
    have hl13 : b9 ≠ w5.heap.size := Nat.ne_of_lt H95.out
    have hl13' : w5.heap.size ≠ b9 := fun e => hl13 e.symm
    have W6E := set_of HAD.out.z9 0 (.slice va vn vc)
    obtain ⟨W6, hW6⟩ : ∃ W6, w6.setCell ⟨b9, 0, none⟩ (.slice va vn vc) = W6 := ⟨_, rfl⟩
    have W13E : W6.heap[w5.heap.size]? = some (.cells [.slice na nn nc, .slice ra rn rc, .string ST, .bool false].toArray 50 (0, 0)) := by
      rw [← hW6, Below.heap_setCell _ _ _ _ (by show w5.heap.size ≠ b9; exact hl13')]; exact HAD.out.z13
    rw [hW6] at W6E ⊢
    obtain ⟨b13, hb13⟩ : ∃ b13, w5.heap.size = b13 := ⟨_, rfl⟩
    rw [hb13] at W13E hl13 hl13'
    simp only [hb13]
    clear k0 k1 k2 k3 i0 i1 i2 i3 m0 m1 m2 m3 hb13
    obtain ⟨k0, k1, k2, k3, i0, i1, i2, i3⟩ := box50 W6E
    obtain ⟨m0, m1, m2, m3, _⟩ := box50 W13E
    have HW6 := Lib.hid hW6
    have HW6E := Lib.hid W6E
    clear hW6 W6E W13E
    go_region_held3 (fun w' => w'.cell? ⟨b13, 1, none⟩ = some (.slice ra rn rc) ∧ w'.cell? ⟨b13, 2, none⟩ = some (.string ST)) (go_keep) (fail)
    have HPH := Lib.hid (HAD.out.set hne89 hge.2)
    rw [HW6.out] at HPH
    obtain ⟨W7, hW7⟩ : ∃ W7, (((W6.setCell ⟨b9, 1, none⟩ (.slice ra rn rc)).setCell ⟨b9, 2, none⟩ (.string ST)).setCell ⟨b9, 3, none⟩ (.bool true)).drew = W7 := ⟨_, rfl⟩
    rw [hW7] at HPH ⊢
    clear k0 k1 k2 k3 i0 i1 i2 i3 m0 m1 m2 m3 hW7
    obtain ⟨k0, k1, k2, k3, i0, i1, i2, i3⟩ := box50 HPH.out.z9
    have HCL := Lib.hid (Clone_any (.slice ra rn rc) r.rc W7 HPH.out.r (by have := HRL.out; omega))
    go_wp2_with (go_at_call 54; refine HCL.out.mono ?_; rintro e w8 ⟨v2, rfl, h7⟩; obtain ⟨g9, g8, gf, gn, gr, gb⟩ := HPH.out.fin h7 hne89 hge.1 hge.2; obtain ⟨k0, k1, k2, k3, i0, i1, i2, i3⟩ := box50 g9; obtain ⟨l0, l1, l2, l3, j0, j1, j2, j3⟩ := box50 g8; obtain ⟨xa, xn, xc, rfl⟩ := sl_form h7.sls; have GF := Lib.hid gf; have GN := Lib.hid gn; have GR := Lib.hid gr; have GB := Lib.hid gb; clear h7 g9 g8 gf gn gr gb; simp only [])
    have hf := GF.out
    refine bodyPost_ret (v := .agg #[.slice va vn vc, .slice xa xn xc, .string ST, .bool true]) ?_ rfl ?_
    · obtain ⟨k0, k1, k2, k3, _⟩ := box50 hf
      simp [results, Tryd.results27, go_sem, k0, k1, k2, k3]
      try rfl
    · exact ⟨_, _, by rw [← HST.out], GN.out, GR.out, GB.out⟩
end Go.Proofs.YtjagnihkpgbjeaaDoor
