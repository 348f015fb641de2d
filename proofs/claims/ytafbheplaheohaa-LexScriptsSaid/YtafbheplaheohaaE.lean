import Derived.Test.YtafbheplaheohaaD
namespace Go.Proofs.Ytafbheplaheohaa
open Go.RowKit
set_option linter.unusedVariables false

theorem Gath.trans {w w1 w2 : World} {B pb : Nat} {lv : Value} {p q : PS} (h : Gath w w1 B pb lv p) (k : ∀ lv1, PAt w1 B pb lv1 p → Gath w1 w2 B pb lv1 q) : Gath w w2 B pb lv q := by
  obtain ⟨lv1, h1, h2, h3⟩ := h
  obtain ⟨lv2, k1, k2, k3⟩ := k lv1 h1
  exact ⟨lv2, k1, h2.trans k2, fun hu => k3 (h3 hu)⟩
theorem Gath.refl {w : World} {B pb : Nat} {lv : Value} {p : PS} (h : PAt w B pb lv p) : Gath w w B pb lv p := ⟨lv, h, Below.refl _ _, fun hu => hu⟩
/-- New blocks leave what is gathered. -/
theorem PAt.under {w w' : World} {B pb : Nat} {lv : Value} {p : PS} (h : PAt w B pb lv p) (hb : Below w.heap.size w w') : PAt w' B pb lv p :=
  h.keep fun g c ty _ _ hc => (hb.block g (Array.getElem?_eq_some_iff.1 hc).1).trans hc
theorem Gath.under {w w' : World} {B pb : Nat} {lv : Value} {p : PS} (h : PAt w B pb lv p) (hB : B ≤ w.heap.size) (hb : Below w.heap.size w w') : Gath w w' B pb lv p :=
  ⟨lv, h.under hb, hb.mono hB, fun hu => hu.under hb⟩
/-- append(p.bytes, s...). -/
theorem PAt.bytes {w w1 : World} {B pb : Nat} {lv bv bv' : Value} {k : Nat} {p : PS} {L : List Pt} {bl : Bz} (hb : w.heap[pb]? = some (.cells [lv, .int .i64 k, bv, .bool p.quotes].toArray 68 (0, 0))) (hl : PRow w B lv p.list L) (hge : B ≤ pb)
    (hby : w1.ownsRow B 5 1 bv' bl.length (u8s bl)) (hgr : w.grownBy w1 bv.ownBlock) (hbv : ∀ g, bv.ownBlock = some g → B ≤ g ∧ ∃ c, w.heap[g]? = some (.cells c 5 (0, 0))) (hB : B ≤ w.heap.size) :
    Gath w (w1.setCell ⟨pb, 2, none⟩ bv') B pb lv ⟨p.list, k, bl, p.quotes⟩ := by
  have key : ∀ g c ty, ty ≠ 5 → w.heap[g]? = some (Obj.cells c ty (0, 0)) → w1.heap[g]? = some (Obj.cells c ty (0, 0)) := fun g c ty hne hc => by
    refine (hgr.block g (Array.getElem?_eq_some_iff.1 hc).1 (fun e => ?_)).trans hc
    obtain ⟨_, c', h2⟩ := hbv g e.symm
    exact cells_ne hc h2 hne rfl
  have hb1 := key _ _ _ (by decide) hb
  have h39 : ∀ g c, B ≤ g → w.heap[g]? = some (Obj.cells c 39 (0, 0)) → (w1.setCell ⟨pb, 2, none⟩ bv').heap[g]? = some (Obj.cells c 39 (0, 0)) := fun g c _ hc =>
    (heap_other (cells_ne hc hb (by decide)) _ _).trans (key _ _ _ (by decide) hc)
  refine ⟨lv, ⟨⟨bv', L, set_of hb1 2 _, hl.keep h39, own_keep hby fun g c hg hc => (heap_other (cells_ne hc hb1 (by decide)) _ _).trans hc⟩, hge⟩, ?_, fun hu => hu.keep fun g c hg hc => ⟨hg, h39 g c hg.1 hc⟩⟩
  exact ((Only.of_grown (S := fun i => bv.ownBlock = some i) hgr (fun k hk => hk)).below (fun k hk => (hbv k hk).1) hB).setCell hge _
theorem u8s_str (a : Bz) (s : ByteArray) : u8s a ++ Lib.strCells s = u8s (a ++ s.data.toList) := by
  rw [Lib.strCells_eq]; simp [u8s, Lib.byteCells]
/-- What a put has in hand, once its kind is told. -/
theorem put_pack {w : World} {B pb : Nat} {lv : Value} {p : PS} (h : PAt w B pb lv p) (hB : B ≤ w.heap.size) (k : Nat) (s : ByteArray) :
    ∃ bv w1, w.cell? ⟨pb, 1, none⟩ = some (.int .i64 p.kind) ∧ w.frozen? ⟨pb, 1, none⟩ = false ∧ w.setCell ⟨pb, 1, none⟩ (.int .i64 k) = w1 ∧ w.cell? ⟨pb, 2, none⟩ = some bv ∧ w1.ownsRow B 5 1 bv p.bytes.length (u8s p.bytes) ∧ B ≤ w1.heap.size ∧
      ∀ v' w2, w2.ownsRow B 5 1 v' (p.bytes.length + s.size) (u8s p.bytes ++ Lib.strCells s) → w1.grownBy w2 bv.ownBlock → (∃ a c, v' = .slice a (p.bytes.length + s.size) c) ∧ w2.cell? ⟨pb, 2, none⟩ = some bv ∧ w2.frozen? ⟨pb, 2, none⟩ = false ∧
        Gath w (w2.setCell ⟨pb, 2, none⟩ v') B pb lv ⟨p.list, k, p.bytes ++ s.data.toList, p.quotes⟩ := by
  obtain ⟨bv, L, hb, hl, hby⟩ := h.ex
  have hge := h.ge
  obtain ⟨w1, hw1⟩ : ∃ w1, w.setCell ⟨pb, 1, none⟩ (.int .i64 k) = w1 := ⟨_, rfl⟩
  have hs1 : w1.heap.size = w.heap.size := by rw [← hw1]; simp
  have hown1 : w1.ownsRow B 5 1 bv p.bytes.length (u8s p.bytes) := by rw [← hw1]; exact own_keep hby fun g c hg hc => (heap_other (cells_ne hc hb (by decide)) _ _).trans hc
  have hb1 : w1.heap[pb]? = some (.cells [lv, .int .i64 k, bv, .bool p.quotes].toArray 68 (0, 0)) := by rw [← hw1]; exact set_of hb 1 _
  have hl1 : PRow w1 B lv p.list L := by rw [← hw1]; exact hl.keep fun g c hg hc => (heap_other (cells_ne hc hb (by decide)) _ _).trans hc
  have hbel1 : Below B w w1 := by rw [← hw1]; exact (Below.refl _ _).setCell hge _
  have hsep1 : ∀ {u : Value} {m : List Prt}, Wd w (Sep B lv) u m → Wd w1 (Sep B lv) u m := fun hu => by rw [← hw1]; exact hu.keep fun g c hg hc => ⟨hg, (heap_other (cells_ne hc hb (by decide)) _ _).trans hc⟩
  have hbv : ∀ g, bv.ownBlock = some g → B ≤ g ∧ ∃ c, w1.heap[g]? = some (.cells c 5 (0, 0)) := fun g hg => by
    rcases own_form hown1 with ⟨e1, _⟩ | ⟨g', c', e1, _, h3, cur', e2⟩
    · rw [e1] at hg; cases hg
    · rw [e1] at hg; cases hg; exact ⟨h3, cur', e2⟩
  refine ⟨bv, w1, cell_of hb 1, free_of hb 1, hw1, cell_of hb 2, hown1, by omega, fun v' w2 ho hg => ?_⟩
  have hp2 : w2.heap[pb]? = some (.cells [lv, .int .i64 k, bv, .bool p.quotes].toArray 68 (0, 0)) := (hg.block pb (blk_lt hb1) (fun e => by
    obtain ⟨_, c, h2⟩ := hbv pb e.symm
    exact cells_ne hb1 h2 (by decide) rfl)).trans hb1
  refine ⟨?_, cell_of hp2 2, free_of hp2 2, ?_⟩
  · rcases own_form ho with ⟨e1, e2⟩ | ⟨g', c', e1, _⟩
    · rw [e2]; exact ⟨none, 0, e1⟩
    · exact ⟨_, _, e1⟩
  · rw [u8s_str] at ho
    have hlen : p.bytes.length + s.size = (p.bytes ++ s.data.toList).length := by rw [List.length_append, dl]
    rw [hlen] at ho
    obtain ⟨lv', g1, g2, g3⟩ := PAt.bytes (p := ⟨p.list, k, p.bytes, p.quotes⟩) hb1 hl1 hge ho hg hbv (by omega)
    exact ⟨lv', g1, hbel1.trans g2, fun hu => g3 (hsep1 hu)⟩
def PutP (w : World) (B pb : Nat) (lv : Value) (p : PS) (e : Ending) (w' : World) : Prop := e = .returned (.tuple #[]) ∧ Gath w w' B pb lv p
set_option maxRecDepth 100000 in
set_option maxHeartbeats 4000000 in
theorem put_any {w : World} {B pb : Nat} {lv : Value} {p : PS} (h : PAt w B pb lv p) (hz : p.sz ≤ 100000) (hB : B ≤ w.heap.size) (k : Nat) (s : ByteArray) (hs : s.size ≤ 100000) :
    Calls Try.prog 50 #[.pointer (some ⟨pb, 0, none⟩), .int .i64 k, .string s] w (PutP w B pb lv (p.put k s.data.toList)) := by
  obtain ⟨Q, hQ⟩ : ∃ Q, PutP w B pb lv (p.put k s.data.toList) = Q := ⟨_, rfl⟩
  rw [hQ]
  have HQ := Lib.hid hQ
  obtain ⟨i0, hi, hz0, hz1, hz2⟩ := info_parts info5
  by_cases h0 : s.data.toList = []
  · have hE : Hid (PutP w B pb lv (p.put k s.data.toList) (.returned (.tuple #[])) w) := by
      rw [h0, put_nil]; exact ⟨rfl, Gath.refl h⟩
    have h1 : s.toList = [] := by rw [Lib.toList_data]; exact h0
    have h2 : s.toList.isEmpty = true := by rw [h1]; rfl
    clear hQ h h0
    go_enter Try.func50, Try.ntmps50
    go_wp2_with fail
    go_end0
    rw [← HQ.out]; exact hE.out
  · have h2 : s.toList.isEmpty = false := isE_ne h0
    by_cases hk : k = p.kind
    · subst hk
      have hkd : ((p.kind : Int) != (p.kind : Int)) = false := by simp
      have hpl : p.bytes.length ≤ 100000 := by unfold PS.sz at hz; omega
      have HP : Hid (p.put p.kind s.data.toList = ⟨p.list, p.kind, p.bytes ++ s.data.toList, p.quotes⟩) := by
        rw [Hid]; unfold PS.put; rw [if_neg h0, if_pos rfl]
      obtain ⟨bv, w1, q1, f1, hw1, q2, hown1, hB1, hgo⟩ := put_pack h hB p.kind s
      have HW1 := Lib.hid hw1
      have HGO := Lib.hid hgo
      clear hQ h h0 hw1 hgo
      go_enter Try.func50, Try.ntmps50
      go_wp2_with (at_builtin; rw [HW1.out]; refine Lib.wpList_append_own_string _ rfl _ _ 42 9 rfl B 5 i0 Try.underlying42 Try.underlying9 hi hz0 hz1 hz2 _ _ _ rfl hown1 s rfl (by unfold maxLen; omega) (by omega) (by omega) ?_; intro v' w2 hown' hgrow _; obtain ⟨⟨va, vc, rfl⟩, p2, p2f, hG⟩ := HGO.out _ _ hown' hgrow; have HG := Lib.hid hG; clear hown' hgrow hG)
      go_end0
      rw [← HQ.out, HP.out]
      exact ⟨rfl, HG.out⟩
    · have hkd : ((k : Int) != (p.kind : Int)) = true := by simp; exact fun e => hk (by omega)
      have HP : Hid (p.put k s.data.toList = ⟨p.flush.list, k, p.flush.bytes ++ s.data.toList, p.flush.quotes⟩) := by
        rw [Hid]; unfold PS.put; rw [if_neg h0, if_neg hk]; rfl
      have HK := Lib.hid hk
      obtain ⟨bv0, L0, hb, _⟩ := h.ex
      have q1' : w.cell? ⟨pb, 1, none⟩ = some (.int .i64 p.kind) := cell_of hb 1
      have HF := Lib.hid (flush_any h hz hB)
      have hfl : p.flush.bytes.length ≤ 100000 := Nat.zero_le _
      obtain ⟨fb, hfb⟩ : ∃ fb, p.flush.bytes.length = fb := ⟨_, rfl⟩
      rw [hfb] at hfl
      have HFB := Lib.hid hfb
      clear hQ h h0 hb hk hfb
      go_enter Try.func50, Try.ntmps50
      go_wp2_with (first
        | (go_at_call 51; refine HF.out.mono ?_; rintro e w3 ⟨rfl, hG3⟩; obtain ⟨lv3, hP3, hb3, hs3⟩ := id hG3; have HG3 := Lib.hid hG3; have hB3 : B ≤ w3.heap.size := Nat.le_trans hB hb3.size; obtain ⟨bv, w1, q1, f1, hw1, q2, hown1, hB1, hgo⟩ := put_pack hP3 hB3 k s; rw [HFB.out] at hown1 hgo; have HW1 := Lib.hid hw1; have HGO := Lib.hid hgo; have HS3 := Lib.hid (And.intro hb3 @hs3); clear hG3 hP3 hb3 hs3 hw1 hgo; simp only [])
        | (at_builtin; rw [HW1.out]; refine Lib.wpList_append_own_string _ rfl _ _ 42 9 rfl B 5 i0 Try.underlying42 Try.underlying9 hi hz0 hz1 hz2 _ _ _ rfl hown1 s rfl (by unfold maxLen; omega) (by omega) (by omega) ?_; intro v' w2 hown' hgrow _; obtain ⟨⟨va, vc, rfl⟩, p2, p2f, hG⟩ := HGO.out _ _ hown' hgrow; have HG := Lib.hid hG; clear hown' hgrow hG))
      go_end0
      rw [← HQ.out, HP.out]
      obtain ⟨lv', g1, g2, g3⟩ := HG.out
      exact ⟨rfl, lv', g1, HS3.out.1.trans g2, fun hu => g3 (HS3.out.2 hu)⟩
end Go.Proofs.Ytafbheplaheohaa
