import Derived.Test.YtafbheplaheohaaC
import Derived.Shelf.Small.Strs
import Derived.Shelf.Small.Wraps
import Derived.Shelf.Strings.Search1
import Derived.Shelf.Strings.Search2
import Derived.Shelf.Strings.Search3
import Derived.Shelf.Strings.Cut
import Derived.Shelf.LaysM
import Derived.Shelf.Strings.Shaped
import Derived.Shelf.Strings.Prefix
import Derived.Test.YtafbheplaheohaaProg
namespace Go.Proofs.Ytafbheplaheohaa
open Go.RowKit
set_option linter.unusedVariables false

theorem Wd.inv {w : World} {F : Nat → Prop} {v : Value} {l : List Prt} (h : Wd w F v l) : (∃ c, v = .slice none 0 c ∧ l = []) ∨ ∃ g off c cur, ∃ L : List Pt, v = .slice (some ⟨g, off, none⟩) l.length c ∧ F g ∧ w.heap[g]? = some (.cells cur 39 (0, 0)) ∧ L.length = l.length ∧
    (∀ i (h : i < L.length) (q : Nat), q < 6 → cur[off + i * 6 + q]? = L[i].cs[q]?) ∧ (∀ i (h : i < L.length) (h' : i < l.length), L[i].is l[i]) ∧ (∀ i (h : i < L.length) (h' : i < l.length), Wd w F L[i].wv l[i].word) := by
  cases h with
  | nil c => exact .inl ⟨c, rfl, rfl⟩
  | row g off c cur L l hF hb hl hc hs hw => exact .inr ⟨g, off, c, cur, L, rfl, hF, hb, hl, hc, hs, hw⟩
/-- One part, at a block. -/
theorem Wd.one {w : World} {F : Nat → Prop} {g : Nat} {pt : Pt} {x : Prt} (hF : F g) (hb : w.heap[g]? = some (.cells pt.cs.toArray 39 (0, 0))) (hx : pt.is x) (hw : Wd w F pt.wv x.word) : Wd w F (.slice (some ⟨g, 0, none⟩) 1 1) [x] := by
  refine Wd.row g 0 1 _ [pt] [x] hF hb rfl (fun i hi q hq => ?_) (fun i hi _ => ?_) (fun i hi _ => ?_)
  · obtain rfl : i = 0 := by simpa using hi
    simp
  · obtain rfl : i = 0 := by simpa using hi
    exact hx
  · obtain rfl : i = 0 := by simpa using hi
    exact hw
theorem Wd.one_inv {w : World} {F : Nat → Prop} {g c : Nat} {x : Prt} (h : Wd w F (.slice (some ⟨g, 0, none⟩) 1 c) [x]) : F g ∧ ∃ cur, w.heap[g]? = some (.cells cur 39 (0, 0)) ∧ ∃ pt : Pt, (∀ q, q < 6 → cur[q]? = pt.cs[q]?) ∧ pt.is x ∧ Wd w F pt.wv x.word := by
  rcases h.inv with ⟨c, e, _⟩ | ⟨g', off, c', cur, L, e, hF, hb, hl, hc, hs, hw⟩
  · cases e
  · injection e with e _ _
    injection e with e
    injection e with e1 e2 _
    subst e1; subst e2
    refine ⟨hF, cur, hb, L[0]'(by rw [hl]; simp), fun q hq => ?_, hs 0 (by rw [hl]; simp) (by simp), hw 0 (by rw [hl]; simp) (by simp)⟩
    have := hc 0 (by rw [hl]; simp) q hq
    simpa using this
/-- What an append in place has in hand: the row, and the worlds that it goes through. -/
structure PlaceP (w : World) (B pb : Nat) (lv : Value) (p : PS) (pt : Pt) (x : Prt) (la : Option Addr) (n lc g cap : Nat) (wB wC wD wE : World) : Prop where
  hlv : lv = .slice la n lc
  q0 : w.cell? ⟨pb, 0, none⟩ = some (.slice la n lc)
  hwB : w.drew.alloc (.cells zero6.toArray 39) = wB
  keepB : ∀ (k : Nat) (c : Array Value) (ty : TypeId), w.heap[k]? = some (Obj.cells c ty (0, 0)) → wB.heap[k]? = some (Obj.cells c ty (0, 0))
  q0B : wB.cell? ⟨pb, 0, none⟩ = some (.slice la n lc)
  run : (Builtin.append_ #[32, 32] 32 #[.slice la n lc, .slice (some ⟨w.heap.size, 0, none⟩) 1 1]).run Try.prog wB = .ok (.slice (some ⟨g, 0, none⟩) (n + 1) cap) wC
  eG : ∀ q, wC.frozen? ⟨g, q, none⟩ = false
  eGE : ∀ q, wE.frozen? ⟨g, q, none⟩ = false
  zc : ∀ q, q < 6 → ∃ z, wC.cell? ⟨g, n * 6 + q, none⟩ = some z
  zE : ∀ a : Nat, wE.cell? ⟨g, a, none⟩ = wC.cell? ⟨g, a, none⟩
  p0 : wC.cell? ⟨pb, 0, none⟩ = some (.slice la n lc)
  p0f : wC.frozen? ⟨pb, 0, none⟩ = false
  p0D : wD.cell? ⟨pb, 0, none⟩ = some (.slice la n lc)
  p0Df : wD.frozen? ⟨pb, 0, none⟩ = false
  hwE : wC.setCell ⟨pb, 0, none⟩ (.slice (some ⟨g, 0, none⟩) (n + 1) cap) = wE
  hwD : put6 wC g (n * 6) pt = wD
  hDE : put6 wE g (n * 6) pt = wD.setCell ⟨pb, 0, none⟩ (.slice (some ⟨g, 0, none⟩) (n + 1) cap)
  go : Gath w (wD.setCell ⟨pb, 0, none⟩ (.slice (some ⟨g, 0, none⟩) (n + 1) cap)) B pb lv ⟨p.list ++ [x], p.kind, p.bytes, p.quotes⟩
theorem place_pack {w : World} {B pb : Nat} {lv : Value} {p : PS} (h : PAt w B pb lv p) (hB : B ≤ w.heap.size) (hln : p.list.length ≤ 100000) {pt : Pt} {x : Prt} (hx : pt.is x) (hw : Wd w (Sep B lv) pt.wv x.word) :
    ∃ la n lc g cap wB wC wD wE, PlaceP w B pb lv p pt x la n lc g cap wB wC wD wE := by
  obtain ⟨bv, L, hb, hl, hby⟩ := h.ex
  have hge := h.ge
  have hLn : L.length ≤ 100000 := by have := hl.len; omega
  obtain ⟨la, lc, hlf⟩ := hl.wd.form
  rw [← hl.len] at hlf
  subst hlf
  have hl' : PRow w.drew B (.slice la L.length lc) p.list L := hl.keep (fun _ _ _ h => h)
  have hw' : Wd w.drew (Sep B (.slice la L.length lc)) pt.wv x.word := Wd.keep (w := w) (w' := w.drew) (fun _ _ h1 h2 => ⟨h1, h2⟩) hw
  obtain ⟨g, cap, wC, cur, hrun, hg, hcs, hgB, hbC, hkC, hsep, hrow⟩ := PRow.place (w := w.drew) hl' hB hLn hx hw'
  have hpC : wC.heap[pb]? = some (.cells [.slice la L.length lc, .int .i64 p.kind, bv, .bool p.quotes].toArray 68 (0, 0)) := by
    rw [hkC pb (blk_lt hb) (fun e => by
      rcases own_form hl.own with ⟨e1, _⟩ | ⟨g', c', e1, _, _, cur', e2⟩
      · rw [e1] at e; cases e
      · rw [e1] at e; cases e
        exact cells_ne hb e2 (by decide) rfl)]
    exact hb
  have hgp : pb ≠ g := cells_ne hpC hg (by decide)
  have hgp' : g ≠ pb := fun e => hgp e.symm
  obtain ⟨wB, hwB⟩ : ∃ wB, w.drew.alloc (.cells zero6.toArray 39) = wB := ⟨_, rfl⟩
  have keepB : ∀ k c ty, w.heap[k]? = some (Obj.cells c ty (0, 0)) → wB.heap[k]? = some (Obj.cells c ty (0, 0)) := fun k c ty hk => by
    rw [← hwB, (MapKept.heap_alloc _ _).2 k (by have := (Array.getElem?_eq_some_iff.1 hk).1; simpa using this)]; exact hk
  rw [hwB] at hrun
  obtain ⟨wE, hwE⟩ : ∃ wE, wC.setCell ⟨pb, 0, none⟩ (.slice (some ⟨g, 0, none⟩) (L.length + 1) cap) = wE := ⟨_, rfl⟩
  obtain ⟨wD, hwD⟩ : ∃ wD, put6 wC g (L.length * 6) pt = wD := ⟨_, rfl⟩
  have hDE : put6 wE g (L.length * 6) pt = wD.setCell ⟨pb, 0, none⟩ (.slice (some ⟨g, 0, none⟩) (L.length + 1) cap) := by rw [← hwE, ← hwD]; exact put6_comm hgp pt _
  have hpD : wD.heap[pb]? = some (.cells [.slice la L.length lc, .int .i64 p.kind, bv, .bool p.quotes].toArray 68 (0, 0)) := by rw [← hwD]; exact (put6_other hgp _ _).trans hpC
  have hgE : wE.heap[g]? = wC.heap[g]? := by rw [← hwE]; exact heap_other (w := wC) (k := g) hgp' 0 _
  have hne39 : ∀ k c, w.heap[k]? = some (Obj.cells c 5 (0, 0)) → (Value.slice la L.length lc).ownBlock ≠ some k := fun k c hc e => by
    rcases own_form hl.own with ⟨e1, _⟩ | ⟨g', c', e1, _, _, cur', e2⟩
    · rw [e1] at e; cases e
    · rw [e1] at e; cases e
      exact cells_ne hc e2 (by decide) rfl
  have hbyC := own_keep hby (w' := wC) fun k c hk hc => (hkC k (Array.getElem?_eq_some_iff.1 hc).1 (hne39 k c hc)).trans hc
  have hbyD := own_keep hbyC (w' := wD) fun k c hk hc => by rw [← hwD]; exact (put6_other (cells_ne hc hg (by decide)) _ _).trans hc
  have hbelD : Below B w wD := by
    rw [← hwD]
    exact put6_below ((below_drewN (Below.refl _ w) 1).mono hB |>.trans hbC) hgB _ _
  rw [hwD] at hrow hsep
  refine ⟨la, L.length, lc, g, cap, wB, wC, wD, wE, ⟨rfl, cell_of hb 0, hwB, keepB, cell_of (keepB _ _ _ hb) 0, hrun, fun q => by simp [World.frozen?, hg], fun q => by simp [World.frozen?, hgE, hg], fun q hq => ?_, fun a => by simp only [World.cell?, hgE], cell_of hpC 0, free_of hpC 0, cell_of hpD 0, free_of hpD 0, hwE, hwD, hDE, ?_⟩⟩
  · have h1 : L.length * 6 + q < cur.size := by omega
    exact ⟨cur[L.length * 6 + q], by simp [World.cell?, hg, h1]⟩
  · refine ⟨_, ⟨⟨bv, _, set_of hpD 0 _, hrow.keep fun k c hk hc => (heap_other (cells_ne hc hpD (by decide)) _ _).trans hc, own_keep hbyD fun k c hk hc => (heap_other (cells_ne hc hpD (by decide)) _ _).trans hc⟩, hge⟩, hbelD.setCell hge _, fun hu => ?_⟩
    exact (hsep (Wd.keep (w := w) (w' := w.drew) (fun _ _ h1 h2 => ⟨h1, h2⟩) hu)).keep fun k c hk hc => ⟨hk, (heap_other (cells_ne hc hpD (by decide)) _ _).trans hc⟩
set_option maxRecDepth 100000 in
set_option maxHeartbeats 8000000 in
theorem add_any {w : World} {B pb : Nat} {lv : Value} {p : PS} (h : PAt w B pb lv p) (hz : p.sz ≤ 90000) (hB : B ≤ w.heap.size) (x : Prt) (pt : Pt) (hx : pt.is x) (hw : Wd w (Sep B lv) pt.wv x.word) :
    Calls Try.prog 63 #[.pointer (some ⟨pb, 0, none⟩), .agg pt.cs.toArray] w (PutP w B pb lv (p.add x)) := by
  obtain ⟨Q, hQ⟩ : ∃ Q, PutP w B pb lv (p.add x) = Q := ⟨_, rfl⟩
  rw [hQ]
  have HQ := Lib.hid hQ
  obtain ⟨pk, pt', pn, po, pwv, pq⟩ := pt
  obtain ⟨wa, wc, hwf⟩ := hw.form
  obtain ⟨wn, hwn⟩ : ∃ wn, x.word.length = wn := ⟨_, rfl⟩
  rw [hwn] at hwf
  simp only at hwf
  subst hwf
  have hbox : Below w.heap.size w (w.alloc (.cells #[.int .i64 pk, .string pt', .string pn, .string po, .slice wa wn wc, .bool pq] 39)) := (Below.refl _ _).alloc (Nat.le_refl _) _
  have hP1 := h.under hbox
  have hW1 := hw.under hbox
  have hF := flush_any hP1 (by omega) (Nat.le_trans hB hbox.size)
  have HF := Lib.hid hF
  have HW1 := Lib.hid hW1
  have HBOX := Lib.hid hbox
  have HSEP0 : Hid (∀ {u : Value} {m : List Prt}, Wd w (Sep B lv) u m → Wd (w.alloc (.cells #[.int .i64 pk, .string pt', .string pn, .string po, .slice wa wn wc, .bool pq] 39)) (Sep B lv) u m) := fun hu => hu.under hbox
  have hxlt : w.heap.size < (w.alloc (.cells #[.int .i64 pk, .string pt', .string pn, .string po, .slice wa wn wc, .bool pq] 39)).heap.size := by simp
  have HX := Lib.hid hx
  have hfz : p.flush.list.length ≤ 90000 := Nat.le_trans (flush_len p) hz
  have hone : Wd (w.alloc (.cells #[.int .i64 pk, .string pt', .string pn, .string po, .slice wa wn wc, .bool pq] 39)) (Sep B lv) (.slice (some ⟨w.heap.size, 0, none⟩) 1 1) [x] := by
    refine Wd.one (pt := ⟨pk, pt', pn, po, .slice wa wn wc, pq⟩) ⟨hB, fun e => ?_⟩ (heap_alloc_new w _) hx hW1
    obtain ⟨_, _, _, hl, _⟩ := h.ex
    have := (hl.own.lt _ e).2
    omega
  have HONE := Lib.hid hone
  have HADD : Hid (p.add x = ⟨p.flush.list ++ [x], p.flush.kind, p.flush.bytes, p.flush.quotes⟩) := rfl
  clear hQ h hw hP1 hW1 hF hx hbox hone
  go_enter Try.func63, Try.ntmps63
  go_wp2_with (go_at_call 51; refine HF.out.mono ?_; rintro e w3 ⟨rfl, hG3⟩; have HG3 := Lib.hid hG3; clear hG3; simp only [])
  obtain ⟨lv3, hP3, hb3, hs3⟩ := HG3.out
  obtain ⟨hFx, cur, hcur, pt3, hcs, hx3, hw3⟩ := Wd.one_inv (hs3 HONE.out)
  have hB3 : B ≤ w3.heap.size := Nat.le_trans (Nat.le_trans hB HBOX.out.size) hb3.size
  obtain ⟨la, n, lc, g, cap, wB, wC, wD, wE, hpl⟩ := place_pack hP3 hB3 (by omega) hx3 hw3
  obtain ⟨xb, hxb⟩ : ∃ xb, w.heap.size = xb := ⟨_, rfl⟩
  rw [hxb] at hcur hxlt ⊢
  obtain ⟨wa3, wc3, hwf3⟩ := hw3.form
  obtain ⟨wn3, hwn3⟩ : ∃ wn, x.word.length = wn := ⟨_, rfl⟩
  rw [hwn3] at hwf3
  obtain ⟨k3, t3, n3, o3, wv3, q3⟩ := pt3
  simp only at hwf3
  subst hwf3
  have cell3 : ∀ (w' : World) q (u : Value), (∀ k c ty, w3.heap[k]? = some (Obj.cells c ty (0, 0)) → w'.heap[k]? = some (Obj.cells c ty (0, 0))) → q < 6 → ([.int .i64 k3, .string t3, .string n3, .string o3, .slice wa3 wn3 wc3, .bool q3] : List Value)[q]? = some u → w'.cell? ⟨xb, q, none⟩ = some u := fun w' q u hk hq hu => by
    have h1 := hk _ _ _ hcur
    rw [Lib.cell_of_heap h1]
    exact (hcs q hq).trans hu
  have a0 := cell3 w3.drew 0 _ (fun _ _ _ h => h) (by decide) rfl
  have a1 := cell3 w3.drew 1 _ (fun _ _ _ h => h) (by decide) rfl
  have a2 := cell3 w3.drew 2 _ (fun _ _ _ h => h) (by decide) rfl
  have a3 := cell3 w3.drew 3 _ (fun _ _ _ h => h) (by decide) rfl
  have a4 := cell3 w3.drew 4 _ (fun _ _ _ h => h) (by decide) rfl
  have a5 := cell3 w3.drew 5 _ (fun _ _ _ h => h) (by decide) rfl
  have b0 := cell3 wB 0 _ hpl.keepB (by decide) rfl
  have b1 := cell3 wB 1 _ hpl.keepB (by decide) rfl
  have b2 := cell3 wB 2 _ hpl.keepB (by decide) rfl
  have b3 := cell3 wB 3 _ hpl.keepB (by decide) rfl
  have b4 := cell3 wB 4 _ hpl.keepB (by decide) rfl
  have b5 := cell3 wB 5 _ hpl.keepB (by decide) rfl
  have q0d : w3.drew.cell? ⟨pb, 0, none⟩ = some (.slice la n lc) := hpl.q0
  have q0B := hpl.q0B
  have HPL := Lib.hid hpl
  have HS3 := Lib.hid (And.intro hb3 @hs3)
  clear hP3 hb3 hs3 hFx hcur hcs hx3 hw3 hpl cell3
  refine wp_region_place 6 17 12 13 14 15 16 10 6 9 11 _ _ _ _ _ _ _ wB wC wD wE (wD.setCell ⟨pb, 0, none⟩ (.slice (some ⟨g, 0, none⟩) (n + 1) cap))
    (.slice (some ⟨w3.heap.size, 0, none⟩) 1 1) (.slice (some ⟨g, 0, none⟩) (n + 1) cap) (.pointer (some ⟨g, n * 6, none⟩)) undef (.pointer (some ⟨pb, 0, none⟩)) (.pointer (some ⟨pb, 0, none⟩)) undef
    (.slice la n lc) (.agg #[.int .i64 k3, .string t3, .string n3, .string o3, .slice wa3 wn3 wc3, .bool q3]) (.pointer (some ⟨pb, 0, none⟩)) (.int .i64 n)
    (by kernel_rfl) (by kernel_rfl) (by kernel_rfl) (by kernel_rfl) (Nat.le_refl 17) rfl (by kernel_rfl) (by kernel_rfl) (by kernel_rfl) ?_ ?_ ?_ ?_ ?_ ?_ ?_ ?_
  · intro b
    rw [← HPL.out.hwB]
    unfold Goes
    go_simp
    exact ⟨rfl, rfl⟩
  · intro b e1 e2
    replace e1 := ev e1
    replace e2 := ev e2
    have hrun := HPL.out.run
    unfold Goes
    simp [execOp, resolve, invoke, builtin, Act.eval, e1, e2, hrun, Result.andThen, GoesR]
  · intro b x e1 e2
    replace e1 := ev e1
    replace e2 := ev e2
    have a6 := addn g 0 (n * 6)
    rw [Nat.zero_add] at a6
    have hlt : (n : Int) < (n : Int) + 1 := by omega
    unfold Goes
    go_simp
    exact ⟨rfl, rfl⟩
  · intro b e1 e2
    replace e1 := ev e1
    replace e2 := ev e2
    have eG := HPL.out.eG
    have eGE := HPL.out.eGE
    have ad := addn g (n * 6)
    rw [← HPL.out.hDE, ← HPL.out.hwD]
    have zc := HPL.out.zc
    have zE := HPL.out.zE
    obtain ⟨z0, c0⟩ := zc 0 (by decide)
    obtain ⟨z1, c1⟩ := zc 1 (by decide)
    obtain ⟨z2, c2⟩ := zc 2 (by decide)
    obtain ⟨z3, c3⟩ := zc 3 (by decide)
    obtain ⟨z4, c4⟩ := zc 4 (by decide)
    obtain ⟨z5, c5⟩ := zc 5 (by decide)
    rw [Nat.add_zero] at c0
    have d0 := (zE _).trans c0
    have d1 := (zE _).trans c1
    have d2 := (zE _).trans c2
    have d3 := (zE _).trans c3
    have d4 := (zE _).trans c4
    have d5 := (zE _).trans c5
    clear zc zE a0 a1 a2 a3 a4 a5 b0 b1 b2 b3 b4 b5
    unfold Goes put6
    constructor
    · go_simp
      exact ⟨rfl, rfl⟩
    · go_simp
      exact ⟨rfl, rfl⟩
  · intro b x e1
    replace e1 := ev e1
    unfold Goes
    go_simp
    exact ⟨rfl, rfl⟩
  · intro b x e1
    replace e1 := ev e1
    unfold Goes
    go_simp
    exact ⟨rfl, rfl⟩
  · intro b e1 e2
    replace e1 := ev e1
    replace e2 := ev e2
    have p0 := HPL.out.p0
    have p0f := HPL.out.p0f
    have p0D := HPL.out.p0D
    have p0Df := HPL.out.p0Df
    rw [← HPL.out.hwE]
    unfold Goes
    constructor
    · go_simp
      exact ⟨rfl, rfl⟩
    · go_simp
      exact ⟨rfl, rfl⟩
  · simp only [List.take_succ_cons, List.take_zero]
    repeat (go_big_quiet_step (fail))
    refine wpQuiet_nil ?_
    refine ⟨rfl, rfl, rfl, rfl, ?_, ?_⟩
    · repeat (go_big_quiet_step (fail))
      exact wpQuiet_nil rfl
    · go_wp2_with fail
      go_end0
      rw [← HQ.out, HADD.out]
      obtain ⟨lv4, g1, g2, g3⟩ := HPL.out.go
      exact ⟨rfl, lv4, g1, (HBOX.out.mono hB).trans (HS3.out.1.trans g2), fun hu => g3 (HS3.out.2 (HSEP0.out hu))⟩
end Go.Proofs.Ytafbheplaheohaa

namespace Go.Proofs.Ytafbheplaheohaa
open Go.RowKit
set_option linter.unusedVariables false

def AllP (w : World) (B : Nat) (l : List Prt) (e : Ending) (w' : World) : Prop := ∃ v, e = .returned v ∧ Wd w' (fun k => B ≤ k) v l ∧ Below B w w'
set_option maxRecDepth 100000 in
set_option maxHeartbeats 4000000 in
theorem all_any {w : World} {B pb : Nat} {lv : Value} {p : PS} (h : PAt w B pb lv p) (hz : p.sz ≤ 90000) (hB : B ≤ w.heap.size) :
    Calls Try.prog 34 #[.pointer (some ⟨pb, 0, none⟩)] w (AllP w B p.all) := by
  obtain ⟨Q, hQ⟩ : ∃ Q, AllP w B p.all = Q := ⟨_, rfl⟩
  rw [hQ]
  have HQ := Lib.hid hQ
  have HF := Lib.hid (flush_any h (by omega) hB)
  have hqf : p.flush.quotes = p.quotes := rfl
  by_cases hc : p.flush.list.isEmpty = true ∧ p.quotes = true
  · have HALL : Hid (p.all = [txt 2 []]) := by rw [Hid]; unfold PS.all; rw [hc.1, hc.2]; rfl
    obtain ⟨he, hqt⟩ := hc
    have hl0 : p.flush.list = [] := by simpa using he
    clear hQ h he
    go_enter Try.func34, Try.ntmps34
    go_wp2_with (go_at_call 51; refine HF.out.mono ?_; rintro e w3 ⟨rfl, lv3, hP3, hb3, hs3⟩; have hge := hP3.ge; obtain ⟨bv, L, hb, hl, hby⟩ := hP3.ex; rw [hl0] at hl; obtain ⟨la, lc, hlf⟩ := hl.wd.form; simp only [List.length_nil] at hlf; subst hlf; rw [hqf, hqt] at hb; have HB := Lib.hid hb; have HB3 := Lib.hid hb3; have q0 : w3.cell? ⟨pb, 0, none⟩ = some (.slice la 0 lc) := cell_of hb 0; have q3 : w3.cell? ⟨pb, 3, none⟩ = some (.bool true) := cell_of hb 3; have f0 := free_of hb 0; have hlt := blk_lt hb; clear hP3 hb3 hs3 hb hl hby; simp only [])
    rw [← HQ.out, HALL.out]
    have hsz : w3.heap.size ≠ pb := by omega
    refine ⟨.slice (some ⟨w3.heap.size, 0, none⟩) 1 1, rfl, Wd.one (pt := ⟨2, ⟨#[]⟩, ⟨#[]⟩, ⟨#[]⟩, .slice none 0 0, false⟩) (Nat.le_trans hB HB3.out.size) ?_ ⟨rfl, rfl, rfl, rfl, rfl⟩ (.nil 0), ?_⟩
    · have h1 := heap_alloc_new (w3.setCell ⟨pb, 0, none⟩ (.slice (some ⟨w3.heap.size, 0, none⟩) 1 1)) (.cells #[.int .i64 2, .string ⟨#[]⟩, .string ⟨#[]⟩, .string ⟨#[]⟩, .slice none 0 0, .bool false] 39)
      have h2 : (w3.setCell ⟨pb, 0, none⟩ (.slice (some ⟨w3.heap.size, 0, none⟩) 1 1)).heap.size = w3.heap.size := by simp
      rw [h2] at h1
      exact h1
    · exact (HB3.out.setCell hge _).alloc (by have := HB3.out.size; simp; omega) _
  · have HALL : Hid (p.all = p.flush.list) := by
      rw [Hid]; unfold PS.all
      rw [if_neg (by rw [Bool.and_eq_true]; exact hc)]
    have hd : ((p.flush.list.length : Int) == 0) = false ∨ p.quotes = false := by
      by_cases h1 : p.flush.list = []
      · right
        cases hq : p.quotes with
        | false => rfl
        | true => exact absurd ⟨by rw [h1]; rfl, hq⟩ hc
      · left
        have : 0 < p.flush.list.length := List.length_pos_iff.2 h1
        simp; omega
    obtain ⟨fn, hfn⟩ : ∃ fn, p.flush.list.length = fn := ⟨_, rfl⟩
    obtain ⟨fq, hfq⟩ : ∃ fq, p.quotes = fq := ⟨_, rfl⟩
    obtain ⟨zb, hzb⟩ : ∃ zb, ((fn : Int) == 0) = zb := ⟨_, rfl⟩
    rw [hfn, hfq, hzb] at hd
    rw [hfq] at hqf
    have HFN := Lib.hid hfn
    clear hQ h hc hfn hfq
    cases zb <;> cases fq <;> simp at hd
    all_goals
      go_enter Try.func34, Try.ntmps34
      go_wp2_with (go_at_call 51; refine HF.out.mono ?_; rintro e w3 ⟨rfl, lv3, hP3, hb3, hs3⟩; have hge := hP3.ge; obtain ⟨bv, L, hb, hl, hby⟩ := hP3.ex; obtain ⟨la, lc, hlf⟩ := hl.wd.form; rw [HFN.out] at hlf; subst hlf; rw [hqf] at hb; have HB := Lib.hid hb; have HB3 := Lib.hid hb3; have HL := Lib.hid hl; have q0 : w3.cell? ⟨pb, 0, none⟩ = some (.slice la fn lc) := cell_of hb 0; have q3 := cell_of hb 3; simp only [List.getElem?_cons_zero, List.getElem?_cons_succ] at q3; have f0 := free_of hb 0; clear hP3 hb3 hs3 hb hl hby; simp only [])
      rw [← HQ.out, HALL.out]
      exact ⟨.slice la fn lc, rfl, HL.out.wd, HB3.out⟩
set_option maxRecDepth 100000 in
set_option maxHeartbeats 400000 in
/-- r.rest(). -/
theorem rest_any (rb : Nat) (s : ByteArray) (k : Nat) (w : World) (hb : w.heap[rb]? = some (.cells [.string s, .int .i64 k].toArray 53 (0, 0))) (hk : k ≤ s.size) (hs : s.size ≤ 20000) :
    Calls Try.prog 21 #[.pointer (some ⟨rb, 0, none⟩)] w fun e w' => e = .returned (.string (s.extract k s.size)) ∧ Below w.heap.size w w' := by
  have q0 : w.cell? ⟨rb, 0, none⟩ = some (.string s) := cell_of hb 0
  have q1 : w.cell? ⟨rb, 1, none⟩ = some (.int .i64 k) := cell_of hb 1
  have hkI : (k : Int) ≤ (s.size : Int) := by omega
  have hk0 : (0 : Int) ≤ (k : Int) := by omega
  clear hb
  go_enter Try.func21, Try.ntmps21
  go_wp2_with fail
  go_quiet (fail)
  go_wp2_with fail
  go_ret
  exact ⟨rfl, drew_below w nq⟩
end Go.Proofs.Ytafbheplaheohaa

namespace Go.Proofs.Ytafbheplaheohaa
open Go.RowKit
set_option linter.unusedVariables false

theorem data_get (s : ByteArray) (k : Nat) (h : k < s.size) : s.data.toList[k]? = some (s[k]'h) := by
  rw [List.getElem?_eq_getElem (by rw [dl]; exact h)]; rfl
theorem byte_lt (c : UInt8) : (c.toNat : Int) < 256 := by have := c.toNat_lt; omega
theorem ble (a b : UInt8) : decide ((a.toNat : Int) ≤ (b.toNat : Int)) = decide (a ≤ b) := by
  have : a ≤ b ↔ a.toNat ≤ b.toNat := UInt8.le_iff_toNat_le
  by_cases h : a ≤ b
  · rw [decide_eq_true h, decide_eq_true (by have := this.1 h; omega)]
  · rw [decide_eq_false h, decide_eq_false (fun e => h (this.2 (by omega)))]
set_option maxRecDepth 100000 in
set_option maxHeartbeats 400000 in
theorem Blank_any (c : UInt8) (w : World) : Calls Try.prog 30 #[.int .u8 c.toNat] w fun e w' => e = .returned (.bool (isBlank c)) ∧ w' = w := by
  have h1 := byte_eq c 32
  have h2 := byte_eq c 9
  rw [show ((32 : UInt8).toNat : Int) = 32 from rfl] at h1
  rw [show ((9 : UInt8).toNat : Int) = 9 from rfl] at h2
  obtain ⟨x, hx⟩ : ∃ x, (c == 32) = x := ⟨_, rfl⟩
  obtain ⟨y, hy⟩ : ∃ y, (c == 9) = y := ⟨_, rfl⟩
  have HB : Hid (isBlank c = (x || y)) := by rw [Hid, ← hx, ← hy]; rfl
  rw [hx] at h1
  rw [hy] at h2
  obtain ⟨r, hr⟩ : ∃ r, isBlank c = r := ⟨_, rfl⟩
  rw [hr] at HB ⊢
  clear hx hy hr
  cases x <;> cases y
  all_goals
    go_enter Try.func30, Try.ntmps30
    go_wp2_with fail
    go_ret
    rw [HB.out]
    exact ⟨rfl, rfl⟩
set_option maxRecDepth 100000 in
set_option maxHeartbeats 400000 in
theorem Space_any (c : UInt8) (w : World) : Calls Try.prog 72 #[.int .u8 c.toNat] w fun e w' => e = .returned (.bool (isSpace c)) ∧ w' = w := by
  have h1 := byte_eq c 10
  rw [show ((10 : UInt8).toNat : Int) = 10 from rfl] at h1
  obtain ⟨x, hx⟩ : ∃ x, (c == 10) = x := ⟨_, rfl⟩
  have HBL := Lib.hid (fun w => Blank_any c w)
  obtain ⟨y, hy⟩ : ∃ y, isBlank c = y := ⟨_, rfl⟩
  have HB : Hid (isSpace c = (y || x)) := by rw [Hid, ← hx, ← hy]; rfl
  rw [hx] at h1
  rw [hy] at HBL
  obtain ⟨r, hr⟩ : ∃ r, isSpace c = r := ⟨_, rfl⟩
  rw [hr] at HB ⊢
  clear hx hy hr
  cases x <;> cases y
  all_goals
    go_enter Try.func72, Try.ntmps72
    go_wp2_with (go_at_call 30; refine (HBL.out _).mono ?_; rintro e w1 ⟨rfl, h1⟩; obtain rfl := h1.symm; simp only [])
    go_ret
    rw [HB.out]
    exact ⟨rfl, rfl⟩
set_option maxRecDepth 100000 in
set_option maxHeartbeats 400000 in
theorem Digit_any (c : UInt8) (w : World) : Calls Try.prog 79 #[.int .u8 c.toNat] w fun e w' => e = .returned (.bool (isDigit c)) ∧ w' = w := by
  have h1 := ble 48 c
  have h2 := ble c 57
  rw [show ((48 : UInt8).toNat : Int) = 48 from rfl] at h1
  rw [show ((57 : UInt8).toNat : Int) = 57 from rfl] at h2
  obtain ⟨x, hx⟩ : ∃ x, decide (48 ≤ c) = x := ⟨_, rfl⟩
  obtain ⟨y, hy⟩ : ∃ y, decide (c ≤ 57) = y := ⟨_, rfl⟩
  have HB : Hid (isDigit c = (x && y)) := by rw [Hid, ← hx, ← hy]; unfold isDigit; simp
  rw [hx] at h1
  rw [hy] at h2
  obtain ⟨r, hr⟩ : ∃ r, isDigit c = r := ⟨_, rfl⟩
  rw [hr] at HB ⊢
  clear hx hy hr
  cases x <;> cases y
  all_goals
    go_enter Try.func79, Try.ntmps79
    go_wp2_with fail
    go_ret
    rw [HB.out]
    exact ⟨rfl, rfl⟩
theorem low_all : ∀ n : Fin 256, (decide ((97 : Int) ≤ bits .or .u8 (n.val : Int) 32) && decide (bits .or .u8 (n.val : Int) 32 ≤ 122)) = isLetter (UInt8.ofNat n.val) := by decide +kernel
theorem isLetter_int (c : UInt8) : isLetter c = (decide ((97 : Int) ≤ bits .or .u8 (c.toNat : Int) 32) && decide (bits .or .u8 (c.toNat : Int) 32 ≤ 122)) := by
  have := low_all ⟨c.toNat, c.toNat_lt⟩
  simp only [UInt8.ofNat_toNat] at this
  exact this.symm
set_option maxRecDepth 100000 in
set_option maxHeartbeats 400000 in
theorem Letter_any (c : UInt8) (w : World) : Calls Try.prog 84 #[.int .u8 c.toNat] w fun e w' => e = .returned (.bool (isLetter c)) ∧ w' = w := by
  rw [isLetter_int]
  obtain ⟨m, hm⟩ : ∃ m, bits .or .u8 (c.toNat : Int) 32 = m := ⟨_, rfl⟩
  rw [hm]
  obtain ⟨b1, h1⟩ : ∃ b, decide ((97 : Int) ≤ m) = b := ⟨_, rfl⟩
  obtain ⟨b2, h2⟩ : ∃ b, decide (m ≤ 122) = b := ⟨_, rfl⟩
  rw [h1, h2]
  cases b1 <;> cases b2
  all_goals
    go_enter Try.func84, Try.ntmps84
    go_wp2_with fail
    go_ret
    exact ⟨rfl, rfl⟩
theorem digits_step {l : Bz} {k : Nat} : digitsLen l = k + digitsLen (l.drop k) → ∀ (c : UInt8), l[k]? = some c → isDigit c = true → digitsLen l = (k + 1) + digitsLen (l.drop (k + 1)) := by
  intro h c hc hd
  have hk : k < l.length := by
    by_cases h : k < l.length
    · exact h
    · rw [List.getElem?_eq_none (by omega)] at hc; cases hc
  rw [List.drop_eq_getElem_cons hk] at h
  have : l[k] = c := by rw [List.getElem?_eq_getElem hk] at hc; injection hc
  rw [this, digitsLen, hd, if_pos rfl] at h
  omega
theorem digits_stop {l : Bz} {k : Nat} (h : digitsLen l = k + digitsLen (l.drop k)) (h2 : k = l.length ∨ ∃ c, l[k]? = some c ∧ isDigit c = false) : digitsLen l = k := by
  rcases h2 with rfl | ⟨c, hc, hd⟩
  · rw [List.drop_length] at h; exact h
  · have hk : k < l.length := by
      by_cases h : k < l.length
      · exact h
      · rw [List.getElem?_eq_none (by omega)] at hc; cases hc
    rw [List.drop_eq_getElem_cons hk] at h
    have : l[k] = c := by rw [List.getElem?_eq_getElem hk] at hc; injection hc
    rw [this, digitsLen, hd] at h
    simpa using h
set_option maxRecDepth 100000 in
set_option maxHeartbeats 1000000 in
theorem Digits_any (s : ByteArray) (hs : s.size ≤ 1000000) (w : World) : Calls Try.prog 83 #[.string s] w fun e w' => e = .returned (.int .i64 (digitsLen s.data.toList)) ∧ w' = w := by
  have HD := Lib.hid (fun c w => Digit_any c w)
  obtain ⟨r, hr⟩ : ∃ r, digitsLen s.data.toList = r := ⟨_, rfl⟩
  have HR := Lib.hid hr
  rw [hr]
  clear hr
  go_enter Try.func83, Try.ntmps83
  go_wp2_with fail
  go_loopw [3] (fun n wx => ∃ k : Nat, n = .int .i64 k ∧ k ≤ s.size ∧ wx = w ∧ Hid (digitsLen s.data.toList = k + digitsLen (s.data.toList.drop k))) (fun n _ => s.size - (intOf n).toNat)
  case atStart => exact ⟨0, rfl, Nat.zero_le _, rfl, by rw [Hid]; simp⟩
  case round =>
    obtain ⟨k, rfl, hk, rfl, HK⟩ := hrel
    have hk0 : (0 : Int) ≤ (k : Int) := by omega
    by_cases hlt : k < s.size
    · have hltI : (k : Int) < (s.size : Int) := by omega
      have hltd : decide ((k : Int) < (s.size : Int)) = true := decide_eq_true hltI
      have hat := data_get s k hlt
      obtain ⟨c, hc⟩ : ∃ c, s[k]'hlt = c := ⟨_, rfl⟩
      rw [hc] at hat
      have HAT := Lib.hid hat
      obtain ⟨z, hz⟩ : ∃ z, isDigit c = z := ⟨_, rfl⟩
      have HZ := Lib.hid hz
      have HDC := Lib.hid (HD.out c)
      rw [hz] at HDC
      have hb64 : IntKind.i64.wrap ((k : Int) + 1) = (k : Int) + 1 := IntWalk.i64_in _ (by omega)
      clear hat hz
      cases z with
      | true =>
        go_wp2_with (go_at_call 79; refine (HDC.out _).mono ?_; rintro e w1 ⟨rfl, h1⟩; obtain rfl := h1.symm; simp only [])
        go_roundw
        case measure => simp [intOf]; omega
        case rel => exact ⟨k + 1, by go_num, by omega, trivial, digits_step HK.out c HAT.out HZ.out⟩
      | false =>
        have HE : Hid (digitsLen s.data.toList = k) := digits_stop HK.out (.inr ⟨c, HAT.out, HZ.out⟩)
        go_wp2_with (go_at_call 79; refine (HDC.out _).mono ?_; rintro e w1 ⟨rfl, h1⟩; obtain rfl := h1.symm; simp only [])
        go_ret
        exact ⟨by rw [← HR.out, HE.out]; rfl, rfl⟩
    · have hltd : decide ((k : Int) < (s.size : Int)) = false := decide_eq_false (by omega)
      have HE : Hid (digitsLen s.data.toList = k) := digits_stop HK.out (.inl (by rw [dl]; omega))
      go_wp2_with fail
      go_ret
      exact ⟨by rw [← HR.out, HE.out]; rfl, rfl⟩
end Go.Proofs.Ytafbheplaheohaa

namespace Go.Proofs
open Go.Shelf
def Try.lays137_ren : Go.Shelf.Ren := ⟨fun | 137 => 73 | 217 => 68 | 266 => 80 | n => n, fun | 9 => 9 | 5 => 5 | 3 => 3 | n => n, fun | n => n⟩
theorem Try.lays137 : Go.Proofs.Lays.n137 Try.prog Try.lays137_ren := {
  mixed := by kernel_rfl
  f137 := Try.func73.trans (congrArg some (by kernel_rfl))
  f217 := Try.func68.trans (congrArg some (by kernel_rfl))
  f266 := Try.func80.trans (congrArg some (by kernel_rfl))
  t3 := Try.underlying3
  a3 := Try.isAgg3
  z3 := Try.sizeOf3
  v3 := Try.zeroValue3
  t5 := Try.underlying5
  a5 := Try.isAgg5
  z5 := Try.sizeOf5
  v5 := Try.zeroValue5
  t9 := Try.underlying9
  a9 := Try.isAgg9
  z9 := Try.sizeOf9
  v9 := Try.zeroValue9 }
open Go.RowKit in
theorem Try.strings_IndexByte (s : ByteArray) (c : Int) (w : World) :
    Calls Try.prog 73 #[.string s, .int .u8 c] w fun e w' => e = .returned (.int .i64 (Lib.indexByte s.data.toList c.toNat.toUInt8)) ∧ w' = w := Any.strings_IndexByte Try.lays137 s c w
def Try.lays103_ren : Go.Shelf.Ren := ⟨fun | 103 => 74 | 210 => 82 | 206 => 43 | n => n, fun | 9 => 9 | 4 => 4 | 24 => 93 | 3 => 3 | n => n, fun | n => n⟩
theorem Try.lays103 : Go.Proofs.Lays.n103 Try.prog Try.lays103_ren := {
  mixed := by kernel_rfl
  f103 := Try.func74.trans (congrArg some (by kernel_rfl))
  f206 := Try.func43.trans (congrArg some (by kernel_rfl))
  f210 := Try.func82.trans (congrArg some (by kernel_rfl))
  t3 := Try.underlying3
  a3 := Try.isAgg3
  z3 := Try.sizeOf3
  v3 := Try.zeroValue3
  t4 := Try.underlying4
  a4 := Try.isAgg4
  z4 := Try.sizeOf4
  v4 := Try.zeroValue4
  t9 := Try.underlying9
  a9 := Try.isAgg9
  z9 := Try.sizeOf9
  v9 := Try.zeroValue9
  t24 := Try.underlying93
  a24 := Try.isAgg93
  z24 := Try.sizeOf93
  v24 := Try.zeroValue93 }
open Go.RowKit in
theorem Try.strings_CutPrefix (s p : ByteArray) (w : World) :
    Calls Try.prog 74 #[.string s, .string p] w fun e w' => e = .returned (.tuple #[.string ⟨(Lib.trimPrefix s.data.toList p.data.toList).toArray⟩, .bool (Lib.hasPrefix s.data.toList p.data.toList)]) ∧ w' = w := Any.strings_CutPrefix Try.lays103 s p w
def Try.lays219_ren : Go.Shelf.Ren := ⟨fun | 219 => 57 | 217 => 68 | 225 => 69 | 224 => 70 | 267 => 71 | 266 => 80 | 314 => 81 | n => n, fun | 9 => 9 | 3 => 3 | 4 => 4 | 5 => 5 | 46 => 92 | 146 => 96 | 51 => 95 | n => n, fun | 1 => 0 | n => n⟩
theorem Try.lays219 : Go.Proofs.Lays.n219 Try.prog Try.lays219_ren := {
  mixed := by kernel_rfl
  f217 := Try.func68.trans (congrArg some (by kernel_rfl))
  f219 := Try.func57.trans (congrArg some (by kernel_rfl))
  f224 := Try.func70.trans (congrArg some (by kernel_rfl))
  f225 := Try.func69.trans (congrArg some (by kernel_rfl))
  f266 := Try.func80.trans (congrArg some (by kernel_rfl))
  f267 := Try.func71.trans (congrArg some (by kernel_rfl))
  f314 := Try.func81.trans (congrArg some (by kernel_rfl))
  t3 := Try.underlying3
  a3 := Try.isAgg3
  z3 := Try.sizeOf3
  v3 := Try.zeroValue3
  t4 := Try.underlying4
  a4 := Try.isAgg4
  z4 := Try.sizeOf4
  v4 := Try.zeroValue4
  t5 := Try.underlying5
  a5 := Try.isAgg5
  z5 := Try.sizeOf5
  v5 := Try.zeroValue5
  t9 := Try.underlying9
  a9 := Try.isAgg9
  z9 := Try.sizeOf9
  v9 := Try.zeroValue9
  t46 := Try.underlying92
  a46 := Try.isAgg92
  z46 := Try.sizeOf92
  v46 := Try.zeroValue92
  t51 := Try.underlying95
  a51 := Try.isAgg95
  z51 := Try.sizeOf95
  v51 := Try.zeroValue95
  t146 := Try.underlying96
  a146 := Try.isAgg96
  z146 := Try.sizeOf96
  v146 := Try.zeroValue96
  g1 := by kernel_rfl }
open Go.RowKit Go.Lib in
theorem Try.stringslite_Index_one (s : ByteArray) (c : UInt8) (w : World) :
    Calls Try.prog 57 #[.string s, .string ⟨#[c]⟩] w fun e w' => e = .returned (.int .i64 (Lib.indexByte s.data.toList c)) ∧ w' = w := Any.stringslite_Index_one Try.lays219 s c w
def Try.lays143_ren : Go.Shelf.Ren := ⟨fun | 143 => 42 | 219 => 57 | 217 => 68 | 225 => 69 | 224 => 70 | 267 => 71 | 266 => 80 | 314 => 81 | n => n, fun | 9 => 9 | 3 => 3 | 4 => 4 | 5 => 5 | 46 => 92 | 146 => 96 | 51 => 95 | n => n, fun | 1 => 0 | n => n⟩
theorem Try.lays143 : Go.Proofs.Lays.n143 Try.prog Try.lays143_ren := {
  mixed := by kernel_rfl
  f143 := Try.func42.trans (congrArg some (by kernel_rfl))
  f217 := Try.func68.trans (congrArg some (by kernel_rfl))
  f219 := Try.func57.trans (congrArg some (by kernel_rfl))
  f224 := Try.func70.trans (congrArg some (by kernel_rfl))
  f225 := Try.func69.trans (congrArg some (by kernel_rfl))
  f266 := Try.func80.trans (congrArg some (by kernel_rfl))
  f267 := Try.func71.trans (congrArg some (by kernel_rfl))
  f314 := Try.func81.trans (congrArg some (by kernel_rfl))
  t3 := Try.underlying3
  a3 := Try.isAgg3
  z3 := Try.sizeOf3
  v3 := Try.zeroValue3
  t4 := Try.underlying4
  a4 := Try.isAgg4
  z4 := Try.sizeOf4
  v4 := Try.zeroValue4
  t5 := Try.underlying5
  a5 := Try.isAgg5
  z5 := Try.sizeOf5
  v5 := Try.zeroValue5
  t9 := Try.underlying9
  a9 := Try.isAgg9
  z9 := Try.sizeOf9
  v9 := Try.zeroValue9
  t46 := Try.underlying92
  a46 := Try.isAgg92
  z46 := Try.sizeOf92
  v46 := Try.zeroValue92
  t51 := Try.underlying95
  a51 := Try.isAgg95
  z51 := Try.sizeOf95
  v51 := Try.zeroValue95
  t146 := Try.underlying96
  a146 := Try.isAgg96
  z146 := Try.sizeOf96
  v146 := Try.zeroValue96
  g1 := by kernel_rfl }
open Go.RowKit Go.Lib in
theorem Try.strings_Index_one (s : ByteArray) (c : UInt8) (w : World) :
    Calls Try.prog 42 #[.string s, .string ⟨#[c]⟩] w fun e w' => e = .returned (.int .i64 (Lib.indexByte s.data.toList c)) ∧ w' = w := Any.strings_Index_one Try.lays143 s c w
def Try.lays144_ren : Go.Shelf.Ren := ⟨fun | 144 => 29 | 143 => 42 | 219 => 57 | 217 => 68 | 225 => 69 | 224 => 70 | 267 => 71 | 266 => 80 | 314 => 81 | n => n, fun | 9 => 9 | 4 => 4 | 3 => 3 | 5 => 5 | 46 => 92 | 146 => 96 | 51 => 95 | n => n, fun | 1 => 0 | n => n⟩
theorem Try.lays144 : Go.Proofs.Lays.n144 Try.prog Try.lays144_ren := {
  mixed := by kernel_rfl
  f143 := Try.func42.trans (congrArg some (by kernel_rfl))
  f144 := Try.func29.trans (congrArg some (by kernel_rfl))
  f217 := Try.func68.trans (congrArg some (by kernel_rfl))
  f219 := Try.func57.trans (congrArg some (by kernel_rfl))
  f224 := Try.func70.trans (congrArg some (by kernel_rfl))
  f225 := Try.func69.trans (congrArg some (by kernel_rfl))
  f266 := Try.func80.trans (congrArg some (by kernel_rfl))
  f267 := Try.func71.trans (congrArg some (by kernel_rfl))
  f314 := Try.func81.trans (congrArg some (by kernel_rfl))
  t3 := Try.underlying3
  a3 := Try.isAgg3
  z3 := Try.sizeOf3
  v3 := Try.zeroValue3
  t4 := Try.underlying4
  a4 := Try.isAgg4
  z4 := Try.sizeOf4
  v4 := Try.zeroValue4
  t5 := Try.underlying5
  a5 := Try.isAgg5
  z5 := Try.sizeOf5
  v5 := Try.zeroValue5
  t9 := Try.underlying9
  a9 := Try.isAgg9
  z9 := Try.sizeOf9
  v9 := Try.zeroValue9
  t46 := Try.underlying92
  a46 := Try.isAgg92
  z46 := Try.sizeOf92
  v46 := Try.zeroValue92
  t51 := Try.underlying95
  a51 := Try.isAgg95
  z51 := Try.sizeOf95
  v51 := Try.zeroValue95
  t146 := Try.underlying96
  a146 := Try.isAgg96
  z146 := Try.sizeOf96
  v146 := Try.zeroValue96
  g1 := by kernel_rfl }
open Go.RowKit Go.Lib in
theorem Try.strings_Contains_one (s : ByteArray) (c : UInt8) (w : World) :
    Calls Try.prog 29 #[.string s, .string ⟨#[c]⟩] w fun e w' => e = .returned (.bool (decide (0 ≤ Lib.indexByte s.data.toList c))) ∧ w' = w := Any.strings_Contains_one Try.lays144 s c w
def Try.lays99_ren : Go.Shelf.Ren := ⟨fun | 99 => 31 | 206 => 43 | n => n, fun | 9 => 9 | 4 => 4 | 3 => 3 | n => n, fun | n => n⟩
theorem Try.lays99 : Go.Proofs.Lays.n99 Try.prog Try.lays99_ren := {
  mixed := by kernel_rfl
  f99 := Try.func31.trans (congrArg some (by kernel_rfl))
  f206 := Try.func43.trans (congrArg some (by kernel_rfl))
  t3 := Try.underlying3
  a3 := Try.isAgg3
  z3 := Try.sizeOf3
  v3 := Try.zeroValue3
  t4 := Try.underlying4
  a4 := Try.isAgg4
  z4 := Try.sizeOf4
  v4 := Try.zeroValue4
  t9 := Try.underlying9
  a9 := Try.isAgg9
  z9 := Try.sizeOf9
  v9 := Try.zeroValue9 }
open Go.RowKit Go.Lib in
theorem Try.strings_HasPrefix (s p : ByteArray) (w : World) :
    Calls Try.prog 31 #[.string s, .string p] w fun e w' => e = .returned (.bool (Lib.hasPrefix s.data.toList p.data.toList)) ∧ w' = w := Any.strings_HasPrefix Try.lays99 s p w
end Go.Proofs
