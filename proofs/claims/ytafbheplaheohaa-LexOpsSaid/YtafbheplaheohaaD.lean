import Derived.Test.YtafbheplaheohaaC
import Derived.Deep.QuietTactic
import Derived.Laws.IdiomStrings
namespace Go.Proofs.Ytafbheplaheohaa
open Go.RowKit
set_option linter.unusedVariables false

theorem own_form {w : World} {B e sz n : Nat} {v : Value} {xs : List Value} (h : w.ownsRow B e sz v n xs) : (v = .slice none 0 0 ∧ n = 0) ∨ ∃ g c, v = .slice (some ⟨g, 0, none⟩) n c ∧ n ≤ c ∧ B ≤ g ∧ ∃ cur, w.heap[g]? = some (.cells cur e (0, 0)) := by
  rcases h.2 with ⟨h1, h2⟩ | ⟨g, c, cur, h1, h2, h3, h4, _⟩
  · exact .inl ⟨h1, h2⟩
  · exact .inr ⟨g, c, h1, h4, h2, cur, h3⟩
theorem own_zero {w : World} {B e sz n g c : Nat} {xs : List Value} (h : w.ownsRow B e sz (.slice (some ⟨g, 0, none⟩) n c) n xs) : w.ownsRow B e sz (.slice (some ⟨g, 0, none⟩) 0 c) 0 [] := by
  refine ⟨by simp, ?_⟩
  rcases h.2 with ⟨h1, h2⟩ | ⟨g', c', cur, h1, h2, h3, h4, h5, h6, h7⟩
  · cases h1
  · cases h1
    exact .inr ⟨g, c, cur, rfl, h2, h3, Nat.zero_le _, h5, h6, by simp⟩
theorem own_conv {w : World} {B : Nat} {v : Value} {l : List UInt8} (h : w.ownsRow B 5 1 v l.length (u8s l)) : (convert 42 9 v).run Try.prog w = .ok (.string ⟨l.toArray⟩) w := by
  by_cases hn : 0 < l.length
  · obtain ⟨g, cap, rfl, _⟩ := h.form hn
    refine run_convert_bytes_back w 42 9 5 ⟨g, 0, none⟩ cap l Try.underlying42 Try.underlying5 Try.underlying9 (fun j hj => ?_)
    have := World.ownsRow.cellAt h j (by omega)
    rw [addn, Nat.zero_add, this]
    simp [u8s, hj]
  · have hl : l = [] := List.length_eq_zero_iff.1 (by omega)
    subst hl
    rcases h.2 with ⟨h1, _⟩ | ⟨g, cap, cur, h1, _⟩
    · rw [h1]
      exact run_convert_bytes_nil w 42 5 Try.underlying42 Try.underlying5 0 0 9 Try.underlying9
    · rw [h1]
      exact run_convert_bytes_back w 42 9 5 ⟨g, 0, none⟩ cap [] Try.underlying42 Try.underlying5 Try.underlying9 (fun j hj => absurd hj (by simp))
theorem ev {b : Act} {t : Nat} {v : Value} (h : b.eval (.tmp t) = v) : b.tmps[t]?.getD undef = v := by
  rw [← h]
  show _ = b.tmps.getD t undef
  rw [Array.getD_eq_getD_getElem?]
/-- What a call that gathers leaves: the parts, and words that are no part of the row. -/
def Gath (w w' : World) (B pb : Nat) (lv : Value) (p : PS) : Prop := ∃ lv', PAt w' B pb lv' p ∧ Below B w w' ∧ ∀ {u : Value} {m : List Prt}, Wd w (Sep B lv) u m → Wd w' (Sep B lv') u m
def FlushP (w : World) (B pb : Nat) (lv : Value) (p : PS) (e : Ending) (w' : World) : Prop := e = .returned (.tuple #[]) ∧ Gath w w' B pb lv p
/-- Behind p.bytes = p.bytes[:0]. -/
theorem flush_end {w0 w : World} {B pb : Nat} {p : PS} {lv0 lv : Value} {l : List Prt} {L : List Pt} {g c : Nat} {n : Nat} {ys : List Value} (hb : w.heap[pb]? = some (.cells [lv, .int .i64 p.kind, .slice (some ⟨g, 0, none⟩) n c, .bool p.quotes].toArray 68 (0, 0)))
    (hl : PRow w B lv l L) (hby : w.ownsRow B 5 1 (.slice (some ⟨g, 0, none⟩) n c) n ys) (hge : B ≤ pb) (hw : Below B w0 w) (hfl : p.flush.list = l) (hsep : ∀ {u : Value} {m : List Prt}, Wd w0 (Sep B lv0) u m → Wd w (Sep B lv) u m) :
    FlushP w0 B pb lv0 p.flush (.returned (.tuple #[])) (w.setCell ⟨pb, 2, none⟩ (.slice (some ⟨g, 0, none⟩) 0 c)) := by
  refine ⟨rfl, lv, ⟨⟨.slice (some ⟨g, 0, none⟩) 0 c, L, set_of hb 2 _, ?_, ?_⟩, hge⟩, hw.setCell hge _, fun hu => (hsep hu).keep fun k cur hk hc => ⟨hk, (heap_other (cells_ne hc hb (by decide)) _ _).trans hc⟩⟩
  · rw [hfl]
    exact hl.keep fun k cur hk hc => (heap_other (cells_ne hc hb (by decide)) _ _).trans hc
  · show World.ownsRow _ B 5 1 _ 0 []
    exact own_keep (own_zero hby) fun k cur hk hc => (heap_other (cells_ne hc hb (by decide)) _ _).trans hc
set_option maxRecDepth 100000 in
set_option maxHeartbeats 4000000 in
theorem flush_any {w : World} {B pb : Nat} {lv : Value} {p : PS} (h : PAt w B pb lv p) (hz : p.sz ≤ 100000) (hB : B ≤ w.heap.size) : Calls Try.prog 51 #[.pointer (some ⟨pb, 0, none⟩)] w (FlushP w B pb lv p.flush) := by
  obtain ⟨bv, L, hb, hl, hby⟩ := h.ex
  have hge := h.ge
  have hLn : L.length ≤ 100000 := by have := hl.len; unfold PS.sz at hz; omega
  obtain ⟨la, lc, hlf⟩ := hl.wd.form
  rw [← hl.len] at hlf
  subst hlf
  obtain ⟨Q, hQ⟩ : ∃ Q, FlushP w B pb (.slice la L.length lc) p.flush = Q := ⟨_, rfl⟩
  rw [hQ]
  have HQ := Lib.hid hQ
  have HL := Lib.hid hl
  have HBY := Lib.hid hby
  have HB := Lib.hid hb
  have q0 : w.cell? ⟨pb, 0, none⟩ = some (.slice la L.length lc) := cell_of hb 0
  have q1 : w.cell? ⟨pb, 1, none⟩ = some (.int .i64 p.kind) := cell_of hb 1
  have q2 : w.cell? ⟨pb, 2, none⟩ = some bv := cell_of hb 2
  have f2 := free_of hb 2
  by_cases h0 : p.bytes = []
  · have hfl : Hid (p.flush.list = p.list) := by rw [Hid]; unfold PS.flush; rw [if_pos h0]
    rw [h0] at HBY hby
    rcases own_form hby with ⟨rfl, _⟩ | ⟨g, c, rfl, _⟩
    · have HE : Hid (FlushP w B pb (.slice la L.length lc) p.flush (.returned (.tuple #[])) (w.setCell ⟨pb, 2, none⟩ (.slice none 0 0))) := by
        refine ⟨rfl, _, ⟨⟨.slice none 0 0, L, set_of hb 2 _, ?_, World.ownsRow_nil _ _ _ _⟩, hge⟩, (Below.refl _ _).setCell hge _, fun hu => hu.keep fun k cur hk hc => ⟨hk, (heap_other (cells_ne hc hb (by decide)) _ _).trans hc⟩⟩
        rw [hfl.out]
        exact hl.keep fun k cur hk hc => (heap_other (cells_ne hc hb (by decide)) _ _).trans hc
      have hsl : ∀ w, (Instr.slice 42 (.slice none 0 0) none (some (.int .i64 0)) none).run Try.prog w = .ok (.slice none 0 0) w := fun w => by kernel_rfl
      clear hQ hl hb h0 hby h
      go_enter Try.func51, Try.ntmps51
      go_wp2_with fail
      go_end0
      rw [← HQ.out]; exact HE.out
    · have HE : Hid (FlushP w B pb (.slice la L.length lc) p.flush (.returned (.tuple #[])) (w.setCell ⟨pb, 2, none⟩ (.slice (some ⟨g, 0, none⟩) 0 c))) := flush_end hb hl hby hge (Below.refl _ _) hfl.out (fun h => h)
      clear hQ hl hb h0 hby h
      go_enter Try.func51, Try.ntmps51
      go_wp2_with fail
      go_end0
      rw [← HQ.out]; exact HE.out
  · have hbl : 0 < p.bytes.length := List.length_pos_iff.2 h0
    rcases own_form hby with ⟨_, e0⟩ | ⟨bg, bc, rfl, hbc, _⟩
    · omega
    obtain ⟨bn, hbn⟩ : ∃ bn, p.bytes.length = bn := ⟨_, rfl⟩
    have hfl : Hid (p.flush.list = p.list ++ [txt p.kind p.bytes]) := by rw [Hid]; unfold PS.flush; rw [if_neg h0]
    have hd : decide ((0 : Int) < (bn : Int)) = true := decide_eq_true (by omega)
    have hx : (Pt.mk p.kind ⟨p.bytes.toArray⟩ ⟨#[]⟩ ⟨#[]⟩ (.slice none 0 0) false).is (txt p.kind p.bytes) := ⟨rfl, rfl, rfl, rfl, rfl⟩
    obtain ⟨g, cap, wC, cur, hrun, hg, hcs, hgB, hbC, hkC, hsep, hrow⟩ := PRow.place (w := w.drew) (hl.keep (fun _ _ _ h => h)) hB hLn hx (.nil 0)
    have hgp : pb ≠ g := fun e => by
      have h1 := hkC pb (blk_lt hb) (fun e => ?_)
      · rw [← e, h1] at hg
        exact cells_ne hb hg (by decide) rfl
      · rcases own_form hl.own with ⟨e1, _⟩ | ⟨g', c', e1, _, _, cur', e2⟩
        · rw [e1] at e; cases e
        · rw [e1] at e; cases e
          exact cells_ne hb e2 (by decide) rfl
    have hWB : (w.drew.alloc (.cells zero6.toArray 39)).heap.size = w.heap.size + 1 := by simp
    have keepB : ∀ k c ty, w.heap[k]? = some (Obj.cells c ty (0, 0)) → (w.drew.alloc (.cells zero6.toArray 39)).heap[k]? = some (Obj.cells c ty (0, 0)) := fun k c ty hk => by
      rw [(MapKept.heap_alloc _ _).2 k (by have := (Array.getElem?_eq_some_iff.1 hk).1; simpa using this)]; exact hk
    have hcv1 := own_conv (w := w.drew) (own_keep hby fun _ _ _ h => h)
    have hcv2 := own_conv (w := w.drew.alloc (.cells zero6.toArray 39)) (own_keep hby fun _ _ _ h => keepB _ _ _ h)
    rw [hbn] at hcv1 hcv2 HBY q2
    have q0' := cell_of (keepB _ _ _ hb) 0
    have q1' := cell_of (keepB _ _ _ hb) 1
    have q2' := cell_of (keepB _ _ _ hb) 2
    simp only [List.getElem?_cons_zero, List.getElem?_cons_succ] at q0' q1' q2'
    rw [hbn] at q2'
    have hpC : wC.heap[pb]? = some (.cells [.slice la L.length lc, .int .i64 p.kind, .slice (some ⟨bg, 0, none⟩) bn bc, .bool p.quotes].toArray 68 (0, 0)) := by
      rw [hkC pb (blk_lt hb) (fun e => by
        rcases own_form hl.own with ⟨e1, _⟩ | ⟨g', c', e1, _, _, cur', e2⟩
        · rw [e1] at e; cases e
        · rw [e1] at e; cases e
          exact cells_ne hb e2 (by decide) rfl)]
      rw [← hbn]; exact hb
    obtain ⟨wB, hwB⟩ : ∃ wB, w.drew.alloc (.cells zero6.toArray 39) = wB := ⟨_, rfl⟩
    rw [hwB] at hcv2 q0' q1' q2' hrun
    have HWB := Lib.hid hwB
    obtain ⟨pt, hpt⟩ : ∃ pt, Pt.mk p.kind ⟨p.bytes.toArray⟩ ⟨#[]⟩ ⟨#[]⟩ (.slice none 0 0) false = pt := ⟨_, rfl⟩
    rw [hpt] at hrow hsep
    have HPT := Lib.hid hpt
    have HRUN := Lib.hid hrun
    have HBC := Lib.hid hbC
    have hgp' : g ≠ pb := fun e => hgp e.symm
    obtain ⟨wE, hwE⟩ : ∃ wE, wC.setCell ⟨pb, 0, none⟩ (.slice (some ⟨g, 0, none⟩) (L.length + 1) cap) = wE := ⟨_, rfl⟩
    obtain ⟨wD, hwD⟩ : ∃ wD, put6 wC g (L.length * 6) pt = wD := ⟨_, rfl⟩
    have hDE : put6 wE g (L.length * 6) pt = wD.setCell ⟨pb, 0, none⟩ (.slice (some ⟨g, 0, none⟩) (L.length + 1) cap) := by rw [← hwE, ← hwD]; exact put6_comm hgp pt _
    have hpD : wD.heap[pb]? = some (.cells [.slice la L.length lc, .int .i64 p.kind, .slice (some ⟨bg, 0, none⟩) bn bc, .bool p.quotes].toArray 68 (0, 0)) := by rw [← hwD]; exact (put6_other hgp _ _).trans hpC
    have e0 := free_of hpC 0
    have e0D := free_of hpD 0
    have eG : ∀ q, wC.frozen? ⟨g, q, none⟩ = false := fun q => by simp [World.frozen?, hg]
    have hgE : wE.heap[g]? = wC.heap[g]? := by rw [← hwE]; exact heap_other (w := wC) (k := g) hgp' 0 _
    have eGE : ∀ q, wE.frozen? ⟨g, q, none⟩ = false := fun q => by simp [World.frozen?, hgE, hg]
    have hne39 : ∀ k c, w.heap[k]? = some (Obj.cells c 5 (0, 0)) → (Value.slice la L.length lc).ownBlock ≠ some k := fun k c hc e => by
      rcases own_form hl.own with ⟨e1, _⟩ | ⟨g', c', e1, _, _, cur', e2⟩
      · rw [e1] at e; cases e
      · rw [e1] at e; cases e
        exact cells_ne hc e2 (by decide) rfl
    have hbyC := own_keep hby (w' := wC) fun k c hk hc => (hkC k (Array.getElem?_eq_some_iff.1 hc).1 (hne39 k c hc)).trans hc
    have hbyD := own_keep hbyC (w' := wD) fun k c hk hc => by rw [← hwD]; exact (put6_other (cells_ne hc hg (by decide)) _ _).trans hc
    rw [hbn] at hbyD
    have hbelD : Below B w wD := by
      rw [← hwD]
      exact put6_below ((below_drewN (Below.refl _ w) 1).mono hB |>.trans HBC.out) hgB _ _
    have HBY2 := Lib.hid (And.intro hbyD hbelD)
    have zc : ∀ q, q < 6 → ∃ z, wC.cell? ⟨g, L.length * 6 + q, none⟩ = some z := fun q hq => by
      have h1 : L.length * 6 + q < cur.size := by omega
      exact ⟨cur[L.length * 6 + q], by simp [World.cell?, hg, h1]⟩
    have zE : ∀ a : Nat, wE.cell? ⟨g, a, none⟩ = wC.cell? ⟨g, a, none⟩ := fun a => by simp only [World.cell?, hgE]
    have HZ := Lib.hid (And.intro zc zE)
    have HPC := Lib.hid hpC
    have HALL := Lib.hid (And.intro hpD (And.intro eG (And.intro eGE (And.intro e0 (And.intro e0D (And.intro hwE (And.intro hwD hDE)))))))
    rw [hwD] at hrow hsep
    have HSEP : Hid (∀ {u : Value} {m : List Prt}, Wd w (Sep B (.slice la L.length lc)) u m → Wd wD (Sep B (.slice (some ⟨g, 0, none⟩) (L.length + 1) cap)) u m) := fun hu => hsep (Wd.keep (w := w) (w' := w.drew) (fun _ _ h1 h2 => ⟨h1, h2⟩) hu)
    have HROW := Lib.hid hrow
    clear hQ hl hb h0 hby h hwB hpt hrow hrun hbC hpD hpC hkC eG eGE e0 e0D hgE hcs hg keepB hWB hx hwE hwD hDE hbyC hbyD hbelD zc zE hne39 hsep
    go_enter Try.func51, Try.ntmps51
    go_wp2_with fail
    have q0d : w.drew.cell? ⟨pb, 0, none⟩ = some (.slice la L.length lc) := q0
    have q1d : w.drew.cell? ⟨pb, 1, none⟩ = some (.int .i64 p.kind) := q1
    have q2d : w.drew.cell? ⟨pb, 2, none⟩ = some (.slice (some ⟨bg, 0, none⟩) bn bc) := q2
    refine wp_region_place 15 36 23 24 25 26 27 21 8 11 22 _ _ _ _ _ _ _ wB wC wD wE (wD.setCell ⟨pb, 0, none⟩ (.slice (some ⟨g, 0, none⟩) (L.length + 1) cap))
      (.slice (some ⟨w.heap.size, 0, none⟩) 1 1) (.slice (some ⟨g, 0, none⟩) (L.length + 1) cap) (.pointer (some ⟨g, L.length * 6, none⟩)) undef (.pointer (some ⟨pb, 0, none⟩)) (.pointer (some ⟨pb, 0, none⟩)) undef
      (.slice la L.length lc) (.agg #[.int .i64 p.kind, .string ⟨p.bytes.toArray⟩, .string ⟨#[]⟩, .string ⟨#[]⟩, .slice none 0 0, .bool false]) (.pointer (some ⟨pb, 0, none⟩)) (.int .i64 L.length)
      (by kernel_rfl) (by kernel_rfl) (by kernel_rfl) (by kernel_rfl) (Nat.le_refl 36) rfl (by kernel_rfl) (by kernel_rfl) (by kernel_rfl) ?_ ?_ ?_ ?_ ?_ ?_ ?_ ?_
    · intro b
      rw [← HWB.out]
      unfold Goes
      go_simp
      exact ⟨rfl, rfl⟩
    · intro b e1 e2
      replace e1 := ev e1
      replace e2 := ev e2
      have hrun : (Builtin.append_ #[32, 32] 32 #[.slice la L.length lc, .slice (some ⟨w.heap.size, 0, none⟩) 1 1]).run Try.prog wB = .ok (.slice (some ⟨g, 0, none⟩) (L.length + 1) cap) wC := HRUN.out
      unfold Goes
      simp [execOp, resolve, invoke, builtin, Act.eval, e1, e2, hrun, Result.andThen, GoesR]
    · intro b x e1 e2
      replace e1 := ev e1
      replace e2 := ev e2
      have a6 := addn g 0 (L.length * 6)
      rw [Nat.zero_add] at a6
      have hlt : (L.length : Int) < (L.length : Int) + 1 := by omega
      unfold Goes
      go_simp
      exact ⟨rfl, rfl⟩
    · intro b e1 e2
      replace e1 := ev e1
      replace e2 := ev e2
      obtain ⟨hpD, eG, eGE, e0, e0D, hwE, hwD, hDE⟩ := HALL.out
      have ad := addn g (L.length * 6)
      rw [← hDE, ← hwD, ← HPT.out]
      obtain ⟨zc, zE⟩ := HZ.out
      obtain ⟨z0, c0⟩ := zc 0 (by decide)
      obtain ⟨z1, c1⟩ := zc 1 (by decide)
      obtain ⟨z2, c2⟩ := zc 2 (by decide)
      obtain ⟨z3, c3⟩ := zc 3 (by decide)
      obtain ⟨z4, c4⟩ := zc 4 (by decide)
      obtain ⟨z5, c5⟩ := zc 5 (by decide)
      rw [Nat.add_zero] at c0
      have d0 := (zE _).trans c0
      have d1 := (zE _).trans c1
      have d2 := (zE _).trans c2
      have d3 := (zE _).trans c3
      have d4 := (zE _).trans c4
      have d5 := (zE _).trans c5
      clear hDE hwD hwE hpD e0 e0D zc zE
      unfold Goes put6
      constructor
      · go_simp
        exact ⟨rfl, rfl⟩
      · go_simp
        exact ⟨rfl, rfl⟩
    · intro b x e1
      replace e1 := ev e1
      unfold Goes
      go_simp
      exact ⟨rfl, rfl⟩
    · intro b x e1
      replace e1 := ev e1
      unfold Goes
      go_simp
      exact ⟨rfl, rfl⟩
    · intro b e1 e2
      replace e1 := ev e1
      replace e2 := ev e2
      obtain ⟨hpD, eG, eGE, e0, e0D, hwE, hwD, hDE⟩ := HALL.out
      rw [← hwE]
      have p0 : wC.cell? ⟨pb, 0, none⟩ = some (.slice la L.length lc) := cell_of HPC.out 0
      have p0D : wD.cell? ⟨pb, 0, none⟩ = some (.slice la L.length lc) := cell_of hpD 0
      clear eG eGE hDE hwD hwE
      unfold Goes
      constructor
      · go_simp
        exact ⟨rfl, rfl⟩
      · go_simp
        exact ⟨rfl, rfl⟩
    · simp only [List.take_succ_cons, List.take_zero]
      repeat (go_big_quiet_step (fail))
      refine wpQuiet_nil ?_
      refine ⟨rfl, rfl, rfl, rfl, ?_, ?_⟩
      · repeat (go_big_quiet_step (fail))
        exact wpQuiet_nil rfl
      · have p2 : wD.cell? ⟨pb, 2, none⟩ = some (.slice (some ⟨bg, 0, none⟩) bn bc) := cell_of HALL.out.1 2
        have p2f := free_of HALL.out.1 2
        go_wp2_with fail
        go_end0
        rw [← HQ.out]
        refine flush_end (w := wD.setCell ⟨pb, 0, none⟩ (.slice (some ⟨g, 0, none⟩) (L.length + 1) cap)) (set_of HALL.out.1 0 _) (HROW.out.keep fun k c hk hc => (heap_other (cells_ne hc HALL.out.1 (by decide)) _ _).trans hc)
          (own_keep HBY2.out.1 fun k c hk hc => (heap_other (cells_ne hc HALL.out.1 (by decide)) _ _).trans hc) hge (HBY2.out.2.setCell hge _) hfl.out (fun hu => (HSEP.out hu).keep fun k c hk hc => ⟨hk, (heap_other (cells_ne hc HALL.out.1 (by decide)) _ _).trans hc⟩)
end Go.Proofs.Ytafbheplaheohaa
