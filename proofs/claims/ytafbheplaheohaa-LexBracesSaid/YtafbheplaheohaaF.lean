import Derived.Test.YtafbheplaheohaaE
namespace Go.Proofs.Ytafbheplaheohaa
open Go.RowKit
set_option linter.unusedVariables false

theorem Wd.inv {w : World} {F : Nat → Prop} {v : Value} {l : List Prt} (h : Wd w F v l) : (∃ c, v = .slice none 0 c ∧ l = []) ∨ ∃ g off c cur, ∃ L : List Pt, v = .slice (some ⟨g, off, none⟩) l.length c ∧ F g ∧ w.heap[g]? = some (.cells cur 39 (0, 0)) ∧ L.length = l.length ∧
    (∀ i (h : i < L.length) (q : Nat), q < 6 → cur[off + i * 6 + q]? = L[i].cs[q]?) ∧ (∀ i (h : i < L.length) (h' : i < l.length), L[i].is l[i]) ∧ (∀ i (h : i < L.length) (h' : i < l.length), Wd w F L[i].wv l[i].word) := by
  cases h with
  | nil c => exact .inl ⟨c, rfl, rfl⟩
  | row g off c cur L l hF hb hl hc hs hw => exact .inr ⟨g, off, c, cur, L, rfl, hF, hb, hl, hc, hs, hw⟩
/-- One part, at a block. -/
theorem Wd.one {w : World} {F : Nat → Prop} {g : Nat} {pt : Pt} {x : Prt} (hF : F g) (hb : w.heap[g]? = some (.cells pt.cs.toArray 39 (0, 0))) (hx : pt.is x) (hw : Wd w F pt.wv x.word) : Wd w F (.slice (some ⟨g, 0, none⟩) 1 1) [x] := by
  refine Wd.row g 0 1 _ [pt] [x] hF hb rfl (fun i hi q hq => ?_) (fun i hi _ => ?_) (fun i hi _ => ?_)
  · obtain rfl : i = 0 := by simpa using hi
    simp
  · obtain rfl : i = 0 := by simpa using hi
    exact hx
  · obtain rfl : i = 0 := by simpa using hi
    exact hw
theorem Wd.one_inv {w : World} {F : Nat → Prop} {g c : Nat} {x : Prt} (h : Wd w F (.slice (some ⟨g, 0, none⟩) 1 c) [x]) : F g ∧ ∃ cur, w.heap[g]? = some (.cells cur 39 (0, 0)) ∧ ∃ pt : Pt, (∀ q, q < 6 → cur[q]? = pt.cs[q]?) ∧ pt.is x ∧ Wd w F pt.wv x.word := by
  rcases h.inv with ⟨c, e, _⟩ | ⟨g', off, c', cur, L, e, hF, hb, hl, hc, hs, hw⟩
  · cases e
  · injection e with e _ _
    injection e with e
    injection e with e1 e2 _
    subst e1; subst e2
    refine ⟨hF, cur, hb, L[0]'(by rw [hl]; simp), fun q hq => ?_, hs 0 (by rw [hl]; simp) (by simp), hw 0 (by rw [hl]; simp) (by simp)⟩
    have := hc 0 (by rw [hl]; simp) q hq
    simpa using this
/-- What an append in place has in hand: the row, and the worlds that it goes through. -/
structure PlaceP (w : World) (B pb : Nat) (lv : Value) (p : PS) (pt : Pt) (x : Prt) (la : Option Addr) (n lc g cap : Nat) (wB wC wD wE : World) : Prop where
  hlv : lv = .slice la n lc
  q0 : w.cell? ⟨pb, 0, none⟩ = some (.slice la n lc)
  hwB : w.drew.alloc (.cells zero6.toArray 39) = wB
  keepB : ∀ (k : Nat) (c : Array Value) (ty : TypeId), w.heap[k]? = some (Obj.cells c ty (0, 0)) → wB.heap[k]? = some (Obj.cells c ty (0, 0))
  q0B : wB.cell? ⟨pb, 0, none⟩ = some (.slice la n lc)
  run : (Builtin.append_ #[32, 32] 32 #[.slice la n lc, .slice (some ⟨w.heap.size, 0, none⟩) 1 1]).run Try.prog wB = .ok (.slice (some ⟨g, 0, none⟩) (n + 1) cap) wC
  eG : ∀ q, wC.frozen? ⟨g, q, none⟩ = false
  eGE : ∀ q, wE.frozen? ⟨g, q, none⟩ = false
  zc : ∀ q, q < 6 → ∃ z, wC.cell? ⟨g, n * 6 + q, none⟩ = some z
  zE : ∀ a : Nat, wE.cell? ⟨g, a, none⟩ = wC.cell? ⟨g, a, none⟩
  p0 : wC.cell? ⟨pb, 0, none⟩ = some (.slice la n lc)
  p0f : wC.frozen? ⟨pb, 0, none⟩ = false
  p0D : wD.cell? ⟨pb, 0, none⟩ = some (.slice la n lc)
  p0Df : wD.frozen? ⟨pb, 0, none⟩ = false
  hwE : wC.setCell ⟨pb, 0, none⟩ (.slice (some ⟨g, 0, none⟩) (n + 1) cap) = wE
  hwD : put6 wC g (n * 6) pt = wD
  hDE : put6 wE g (n * 6) pt = wD.setCell ⟨pb, 0, none⟩ (.slice (some ⟨g, 0, none⟩) (n + 1) cap)
  go : Gath w (wD.setCell ⟨pb, 0, none⟩ (.slice (some ⟨g, 0, none⟩) (n + 1) cap)) B pb lv ⟨p.list ++ [x], p.kind, p.bytes, p.quotes⟩
theorem place_pack {w : World} {B pb : Nat} {lv : Value} {p : PS} (h : PAt w B pb lv p) (hB : B ≤ w.heap.size) (hln : p.list.length ≤ 100000) {pt : Pt} {x : Prt} (hx : pt.is x) (hw : Wd w (Sep B lv) pt.wv x.word) :
    ∃ la n lc g cap wB wC wD wE, PlaceP w B pb lv p pt x la n lc g cap wB wC wD wE := by
  obtain ⟨bv, L, hb, hl, hby⟩ := h.ex
  have hge := h.ge
  have hLn : L.length ≤ 100000 := by have := hl.len; omega
  obtain ⟨la, lc, hlf⟩ := hl.wd.form
  rw [← hl.len] at hlf
  subst hlf
  have hl' : PRow w.drew B (.slice la L.length lc) p.list L := hl.keep (fun _ _ _ h => h)
  have hw' : Wd w.drew (Sep B (.slice la L.length lc)) pt.wv x.word := Wd.keep (w := w) (w' := w.drew) (fun _ _ h1 h2 => ⟨h1, h2⟩) hw
  obtain ⟨g, cap, wC, cur, hrun, hg, hcs, hgB, hbC, hkC, hsep, hrow⟩ := PRow.place (w := w.drew) hl' hB hLn hx hw'
  have hpC : wC.heap[pb]? = some (.cells [.slice la L.length lc, .int .i64 p.kind, bv, .bool p.quotes].toArray 68 (0, 0)) := by
    rw [hkC pb (blk_lt hb) (fun e => by
      rcases own_form hl.own with ⟨e1, _⟩ | ⟨g', c', e1, _, _, cur', e2⟩
      · rw [e1] at e; cases e
      · rw [e1] at e; cases e
        exact cells_ne hb e2 (by decide) rfl)]
    exact hb
  have hgp : pb ≠ g := cells_ne hpC hg (by decide)
  have hgp' : g ≠ pb := fun e => hgp e.symm
  obtain ⟨wB, hwB⟩ : ∃ wB, w.drew.alloc (.cells zero6.toArray 39) = wB := ⟨_, rfl⟩
  have keepB : ∀ k c ty, w.heap[k]? = some (Obj.cells c ty (0, 0)) → wB.heap[k]? = some (Obj.cells c ty (0, 0)) := fun k c ty hk => by
    rw [← hwB, (MapKept.heap_alloc _ _).2 k (by have := (Array.getElem?_eq_some_iff.1 hk).1; simpa using this)]; exact hk
  rw [hwB] at hrun
  obtain ⟨wE, hwE⟩ : ∃ wE, wC.setCell ⟨pb, 0, none⟩ (.slice (some ⟨g, 0, none⟩) (L.length + 1) cap) = wE := ⟨_, rfl⟩
  obtain ⟨wD, hwD⟩ : ∃ wD, put6 wC g (L.length * 6) pt = wD := ⟨_, rfl⟩
  have hDE : put6 wE g (L.length * 6) pt = wD.setCell ⟨pb, 0, none⟩ (.slice (some ⟨g, 0, none⟩) (L.length + 1) cap) := by rw [← hwE, ← hwD]; exact put6_comm hgp pt _
  have hpD : wD.heap[pb]? = some (.cells [.slice la L.length lc, .int .i64 p.kind, bv, .bool p.quotes].toArray 68 (0, 0)) := by rw [← hwD]; exact (put6_other hgp _ _).trans hpC
  have hgE : wE.heap[g]? = wC.heap[g]? := by rw [← hwE]; exact heap_other (w := wC) (k := g) hgp' 0 _
  have hne39 : ∀ k c, w.heap[k]? = some (Obj.cells c 5 (0, 0)) → (Value.slice la L.length lc).ownBlock ≠ some k := fun k c hc e => by
    rcases own_form hl.own with ⟨e1, _⟩ | ⟨g', c', e1, _, _, cur', e2⟩
    · rw [e1] at e; cases e
    · rw [e1] at e; cases e
      exact cells_ne hc e2 (by decide) rfl
  have hbyC := own_keep hby (w' := wC) fun k c hk hc => (hkC k (Array.getElem?_eq_some_iff.1 hc).1 (hne39 k c hc)).trans hc
  have hbyD := own_keep hbyC (w' := wD) fun k c hk hc => by rw [← hwD]; exact (put6_other (cells_ne hc hg (by decide)) _ _).trans hc
  have hbelD : Below B w wD := by
    rw [← hwD]
    exact put6_below ((below_drewN (Below.refl _ w) 1).mono hB |>.trans hbC) hgB _ _
  rw [hwD] at hrow hsep
  refine ⟨la, L.length, lc, g, cap, wB, wC, wD, wE, ⟨rfl, cell_of hb 0, hwB, keepB, cell_of (keepB _ _ _ hb) 0, hrun, fun q => by simp [World.frozen?, hg], fun q => by simp [World.frozen?, hgE, hg], fun q hq => ?_, fun a => by simp only [World.cell?, hgE], cell_of hpC 0, free_of hpC 0, cell_of hpD 0, free_of hpD 0, hwE, hwD, hDE, ?_⟩⟩
  · have h1 : L.length * 6 + q < cur.size := by omega
    exact ⟨cur[L.length * 6 + q], by simp [World.cell?, hg, h1]⟩
  · refine ⟨_, ⟨⟨bv, _, set_of hpD 0 _, hrow.keep fun k c hk hc => (heap_other (cells_ne hc hpD (by decide)) _ _).trans hc, own_keep hbyD fun k c hk hc => (heap_other (cells_ne hc hpD (by decide)) _ _).trans hc⟩, hge⟩, hbelD.setCell hge _, fun hu => ?_⟩
    exact (hsep (Wd.keep (w := w) (w' := w.drew) (fun _ _ h1 h2 => ⟨h1, h2⟩) hu)).keep fun k c hk hc => ⟨hk, (heap_other (cells_ne hc hpD (by decide)) _ _).trans hc⟩
set_option maxRecDepth 100000 in
set_option maxHeartbeats 8000000 in
theorem add_any {w : World} {B pb : Nat} {lv : Value} {p : PS} (h : PAt w B pb lv p) (hz : p.sz ≤ 90000) (hB : B ≤ w.heap.size) (x : Prt) (pt : Pt) (hx : pt.is x) (hw : Wd w (Sep B lv) pt.wv x.word) :
    Calls Try.prog 63 #[.pointer (some ⟨pb, 0, none⟩), .agg pt.cs.toArray] w (PutP w B pb lv (p.add x)) := by
  obtain ⟨Q, hQ⟩ : ∃ Q, PutP w B pb lv (p.add x) = Q := ⟨_, rfl⟩
  rw [hQ]
  have HQ := Lib.hid hQ
  obtain ⟨pk, pt', pn, po, pwv, pq⟩ := pt
  obtain ⟨wa, wc, hwf⟩ := hw.form
  obtain ⟨wn, hwn⟩ : ∃ wn, x.word.length = wn := ⟨_, rfl⟩
  rw [hwn] at hwf
  simp only at hwf
  subst hwf
  have hbox : Below w.heap.size w (w.alloc (.cells #[.int .i64 pk, .string pt', .string pn, .string po, .slice wa wn wc, .bool pq] 39)) := (Below.refl _ _).alloc (Nat.le_refl _) _
  have hP1 := h.under hbox
  have hW1 := hw.under hbox
  have hF := flush_any hP1 (by omega) (Nat.le_trans hB hbox.size)
  have HF := Lib.hid hF
  have HW1 := Lib.hid hW1
  have HBOX := Lib.hid hbox
  have HSEP0 : Hid (∀ {u : Value} {m : List Prt}, Wd w (Sep B lv) u m → Wd (w.alloc (.cells #[.int .i64 pk, .string pt', .string pn, .string po, .slice wa wn wc, .bool pq] 39)) (Sep B lv) u m) := fun hu => hu.under hbox
  have hxlt : w.heap.size < (w.alloc (.cells #[.int .i64 pk, .string pt', .string pn, .string po, .slice wa wn wc, .bool pq] 39)).heap.size := by simp
  have HX := Lib.hid hx
  have hfz : p.flush.list.length ≤ 90000 := Nat.le_trans (flush_len p) hz
  have hone : Wd (w.alloc (.cells #[.int .i64 pk, .string pt', .string pn, .string po, .slice wa wn wc, .bool pq] 39)) (Sep B lv) (.slice (some ⟨w.heap.size, 0, none⟩) 1 1) [x] := by
    refine Wd.one (pt := ⟨pk, pt', pn, po, .slice wa wn wc, pq⟩) ⟨hB, fun e => ?_⟩ (heap_alloc_new w _) hx hW1
    obtain ⟨_, _, _, hl, _⟩ := h.ex
    have := (hl.own.lt _ e).2
    omega
  have HONE := Lib.hid hone
  have HADD : Hid (p.add x = ⟨p.flush.list ++ [x], p.flush.kind, p.flush.bytes, p.flush.quotes⟩) := rfl
  clear hQ h hw hP1 hW1 hF hx hbox hone
  go_enter Try.func63, Try.ntmps63
  go_wp2_with (go_at_call 51; refine HF.out.mono ?_; rintro e w3 ⟨rfl, hG3⟩; have HG3 := Lib.hid hG3; clear hG3; simp only [])
  obtain ⟨lv3, hP3, hb3, hs3⟩ := HG3.out
  obtain ⟨hFx, cur, hcur, pt3, hcs, hx3, hw3⟩ := Wd.one_inv (hs3 HONE.out)
  have hB3 : B ≤ w3.heap.size := Nat.le_trans (Nat.le_trans hB HBOX.out.size) hb3.size
  obtain ⟨la, n, lc, g, cap, wB, wC, wD, wE, hpl⟩ := place_pack hP3 hB3 (by omega) hx3 hw3
  obtain ⟨xb, hxb⟩ : ∃ xb, w.heap.size = xb := ⟨_, rfl⟩
  rw [hxb] at hcur hxlt ⊢
  obtain ⟨wa3, wc3, hwf3⟩ := hw3.form
  obtain ⟨wn3, hwn3⟩ : ∃ wn, x.word.length = wn := ⟨_, rfl⟩
  rw [hwn3] at hwf3
  obtain ⟨k3, t3, n3, o3, wv3, q3⟩ := pt3
  simp only at hwf3
  subst hwf3
  have cell3 : ∀ (w' : World) q (u : Value), (∀ k c ty, w3.heap[k]? = some (Obj.cells c ty (0, 0)) → w'.heap[k]? = some (Obj.cells c ty (0, 0))) → q < 6 → ([.int .i64 k3, .string t3, .string n3, .string o3, .slice wa3 wn3 wc3, .bool q3] : List Value)[q]? = some u → w'.cell? ⟨xb, q, none⟩ = some u := fun w' q u hk hq hu => by
    have h1 := hk _ _ _ hcur
    rw [Lib.cell_of_heap h1]
    exact (hcs q hq).trans hu
  have a0 := cell3 w3.drew 0 _ (fun _ _ _ h => h) (by decide) rfl
  have a1 := cell3 w3.drew 1 _ (fun _ _ _ h => h) (by decide) rfl
  have a2 := cell3 w3.drew 2 _ (fun _ _ _ h => h) (by decide) rfl
  have a3 := cell3 w3.drew 3 _ (fun _ _ _ h => h) (by decide) rfl
  have a4 := cell3 w3.drew 4 _ (fun _ _ _ h => h) (by decide) rfl
  have a5 := cell3 w3.drew 5 _ (fun _ _ _ h => h) (by decide) rfl
  have b0 := cell3 wB 0 _ hpl.keepB (by decide) rfl
  have b1 := cell3 wB 1 _ hpl.keepB (by decide) rfl
  have b2 := cell3 wB 2 _ hpl.keepB (by decide) rfl
  have b3 := cell3 wB 3 _ hpl.keepB (by decide) rfl
  have b4 := cell3 wB 4 _ hpl.keepB (by decide) rfl
  have b5 := cell3 wB 5 _ hpl.keepB (by decide) rfl
  have q0d : w3.drew.cell? ⟨pb, 0, none⟩ = some (.slice la n lc) := hpl.q0
  have q0B := hpl.q0B
  have HPL := Lib.hid hpl
  have HS3 := Lib.hid (And.intro hb3 @hs3)
  clear hP3 hb3 hs3 hFx hcur hcs hx3 hw3 hpl cell3
  refine wp_region_place 6 17 12 13 14 15 16 10 6 9 11 _ _ _ _ _ _ _ wB wC wD wE (wD.setCell ⟨pb, 0, none⟩ (.slice (some ⟨g, 0, none⟩) (n + 1) cap))
    (.slice (some ⟨w3.heap.size, 0, none⟩) 1 1) (.slice (some ⟨g, 0, none⟩) (n + 1) cap) (.pointer (some ⟨g, n * 6, none⟩)) undef (.pointer (some ⟨pb, 0, none⟩)) (.pointer (some ⟨pb, 0, none⟩)) undef
    (.slice la n lc) (.agg #[.int .i64 k3, .string t3, .string n3, .string o3, .slice wa3 wn3 wc3, .bool q3]) (.pointer (some ⟨pb, 0, none⟩)) (.int .i64 n)
    (by kernel_rfl) (by kernel_rfl) (by kernel_rfl) (by kernel_rfl) (Nat.le_refl 17) rfl (by kernel_rfl) (by kernel_rfl) (by kernel_rfl) ?_ ?_ ?_ ?_ ?_ ?_ ?_ ?_
  · intro b
    rw [← HPL.out.hwB]
    unfold Goes
    go_simp
    exact ⟨rfl, rfl⟩
  · intro b e1 e2
    replace e1 := ev e1
    replace e2 := ev e2
    have hrun := HPL.out.run
    unfold Goes
    simp [execOp, resolve, invoke, builtin, Act.eval, e1, e2, hrun, Result.andThen, GoesR]
  · intro b x e1 e2
    replace e1 := ev e1
    replace e2 := ev e2
    have a6 := addn g 0 (n * 6)
    rw [Nat.zero_add] at a6
    have hlt : (n : Int) < (n : Int) + 1 := by omega
    unfold Goes
    go_simp
    exact ⟨rfl, rfl⟩
  · intro b e1 e2
    replace e1 := ev e1
    replace e2 := ev e2
    have eG := HPL.out.eG
    have eGE := HPL.out.eGE
    have ad := addn g (n * 6)
    rw [← HPL.out.hDE, ← HPL.out.hwD]
    have zc := HPL.out.zc
    have zE := HPL.out.zE
    obtain ⟨z0, c0⟩ := zc 0 (by decide)
    obtain ⟨z1, c1⟩ := zc 1 (by decide)
    obtain ⟨z2, c2⟩ := zc 2 (by decide)
    obtain ⟨z3, c3⟩ := zc 3 (by decide)
    obtain ⟨z4, c4⟩ := zc 4 (by decide)
    obtain ⟨z5, c5⟩ := zc 5 (by decide)
    rw [Nat.add_zero] at c0
    have d0 := (zE _).trans c0
    have d1 := (zE _).trans c1
    have d2 := (zE _).trans c2
    have d3 := (zE _).trans c3
    have d4 := (zE _).trans c4
    have d5 := (zE _).trans c5
    clear zc zE a0 a1 a2 a3 a4 a5 b0 b1 b2 b3 b4 b5
    unfold Goes put6
    constructor
    · go_simp
      exact ⟨rfl, rfl⟩
    · go_simp
      exact ⟨rfl, rfl⟩
  · intro b x e1
    replace e1 := ev e1
    unfold Goes
    go_simp
    exact ⟨rfl, rfl⟩
  · intro b x e1
    replace e1 := ev e1
    unfold Goes
    go_simp
    exact ⟨rfl, rfl⟩
  · intro b e1 e2
    replace e1 := ev e1
    replace e2 := ev e2
    have p0 := HPL.out.p0
    have p0f := HPL.out.p0f
    have p0D := HPL.out.p0D
    have p0Df := HPL.out.p0Df
    rw [← HPL.out.hwE]
    unfold Goes
    constructor
    · go_simp
      exact ⟨rfl, rfl⟩
    · go_simp
      exact ⟨rfl, rfl⟩
  · simp only [List.take_succ_cons, List.take_zero]
    repeat (go_big_quiet_step (fail))
    refine wpQuiet_nil ?_
    refine ⟨rfl, rfl, rfl, rfl, ?_, ?_⟩
    · repeat (go_big_quiet_step (fail))
      exact wpQuiet_nil rfl
    · go_wp2_with fail
      go_end0
      rw [← HQ.out, HADD.out]
      obtain ⟨lv4, g1, g2, g3⟩ := HPL.out.go
      exact ⟨rfl, lv4, g1, (HBOX.out.mono hB).trans (HS3.out.1.trans g2), fun hu => g3 (HS3.out.2 (HSEP0.out hu))⟩
end Go.Proofs.Ytafbheplaheohaa
