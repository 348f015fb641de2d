import Derived.Test.YtafbheplaheohaaY
import Derived.Test.YtafbheplaheohaaEB
import Derived.Test.YtafbheplaheohaaMH
namespace Go.Proofs.Ytafbheplaheohaa
open Go.RowKit
set_option linter.unusedVariables false

theorem pcs_one (p : Pt) : p.cs.length = 6 := rfl
theorem one_cell6 (p : Pt) (hw : ∃ a n c, p.wv = .slice a n c) : ∀ u ∈ p.cs, u.oneCell' = true := by
  obtain ⟨a, n, c, hw⟩ := hw
  intro u hu
  simp only [Pt.cs, List.mem_cons, List.not_mem_nil, or_false] at hu
  rcases hu with rfl | rfl | rfl | rfl | rfl | rfl <;> first | rfl | (rw [hw]; rfl)
/-- append of a part that was just built. -/
theorem PRow.push {w : World} {B : Nat} {v : Value} {l : List Prt} {L : List Pt} (h : PRow w B v l L) (hB : B ≤ w.heap.size) (hl : L.length ≤ 100000) (pt : Pt) (x : Prt) (hx : pt.is x) (hw : Wd w (Sep B v) pt.wv x.word) :
    ∃ (a : Option Addr) (c : Nat) (w' : World), (Builtin.append_ #[32, 32] 32 #[v, .slice (some ⟨w.heap.size, 0, none⟩) 1 1]).run Try.prog (w.alloc (.cells pt.cs.toArray 39)) = .ok (.slice a (L.length + 1) c) w' ∧
      PRow w' B (.slice a (L.length + 1) c) (l ++ [x]) (L ++ [pt]) ∧ Below B w w' ∧ (∀ (k : Nat) (cur : Array Value) (ty : TypeId), ty ≠ 39 → w.heap[k]? = some (Obj.cells cur ty (0, 0)) → w'.heap[k]? = some (Obj.cells cur ty (0, 0))) ∧
      (∀ {u : Value} {m : List Prt}, Wd w (Sep B v) u m → Wd w' (Sep B (.slice a (L.length + 1) c)) u m) ∧ (∀ k, k < w.heap.size → v.ownBlock ≠ some k → w'.heap[k]? = w.heap[k]?) := by
  obtain ⟨i0, hi, hz0, hz1, hz2⟩ := info_parts info39
  have hbel : Below w.heap.size w (w.alloc (.cells pt.cs.toArray 39)) := (Below.refl _ _).alloc (Nat.le_refl _) _
  have hs1 : (w.alloc (.cells pt.cs.toArray 39)).heap.size = w.heap.size + 1 := by simp
  have hown : (w.alloc (.cells pt.cs.toArray 39)).ownsRow B 39 6 v L.length (pcs L) := own_keep h.own fun g c hg h1 => (hbel.block g (h.own.lt g hg).2).trans h1
  have u32 : Try.prog.underlying 32 = some (.slice 39) := by kernel_rfl
  obtain ⟨wa, wc, hwf⟩ := hw.form
  obtain ⟨v', wC, h2, h3, h4, h5⟩ := run_append_at (P := Try.prog) (w.alloc (.cells pt.cs.toArray 39)) B 32 32 39 i0 _ 6 88 u32 hi hz0 hz1 hz2 rfl (by decide) v L.length (pcs L) hown ⟨w.heap.size, 0, none⟩ 1 1 pt.cs rfl
    (fun j u hj => by
      rw [addn, Nat.zero_add]
      simp only [World.cell?, heap_alloc_new w]
      simpa using hj) (one_cell6 pt ⟨wa, _, wc, hwf⟩) (by unfold maxLen; omega) (by omega) (by omega) (by decide)
  obtain ⟨a, c, hf⟩ : ∃ a c, v' = .slice a (L.length + 1) c := by
    rcases own_form h3 with ⟨_, h0⟩ | ⟨g, c, e, _⟩
    · omega
    · exact ⟨_, c, e⟩
  subst hf
  have hbC : Below B w wC := (hbel.mono hB).trans ((Only.of_grown (S := fun i => v.ownBlock = some i) h4 (fun k hk => hk)).below (fun k hk => (hown.lt k hk).1) (by omega))
  have hkC : ∀ k, k < w.heap.size → v.ownBlock ≠ some k → wC.heap[k]? = w.heap[k]? := fun k hk hne => (h4.block k (by omega) (fun e => hne e.symm)).trans (hbel.block k hk)
  have hne : ∀ (k : Nat) (cur : Array Value) (ty : TypeId), ty ≠ 39 → w.heap[k]? = some (Obj.cells cur ty (0, 0)) → v.ownBlock ≠ some k := fun k cur ty ht hc e => by
    rcases own_form h.own with ⟨e1, _⟩ | ⟨g, c', e1, _, _, cur', e2⟩
    · rw [e1] at e; cases e
    · rw [e1] at e; cases e
      exact cells_ne hc e2 ht rfl
  have hword : ∀ {u : Value} {m : List Prt}, Wd w (fun k => B ≤ k ∧ v.ownBlock ≠ some k) u m → Wd wC (fun k => B ≤ k ∧ (Value.slice a (L.length + 1) c).ownBlock ≠ some k) u m := fun hu => by
    refine hu.keep fun k c' hk hc => ?_
    have hkl := (Array.getElem?_eq_some_iff.1 hc).1
    refine ⟨⟨hk.1, fun e => ?_⟩, (hkC k hkl hk.2).trans hc⟩
    rcases h5 with e2 | e2
    · exact hk.2 (e2.symm.trans e)
    · rw [e2] at e; injection e with e; omega
  refine ⟨a, c, wC, h2, ⟨?_, ?_, fun i h1 h2 => ?_, fun i h1 h2 => ?_⟩, hbC, fun k cur ty ht hc => (hkC k (Array.getElem?_eq_some_iff.1 hc).1 (hne k cur ty ht hc)).trans hc, hword, hkC⟩
  · rw [List.length_append, pcs_app]; exact h3
  · rw [List.length_append, List.length_append, h.len]; rfl
  · by_cases hil : i < L.length
    · rw [List.getElem_append_left hil, List.getElem_append_left (by rw [← h.len]; exact hil)]
      exact h.is i hil _
    · have : i = L.length := by rw [List.length_append, List.length_singleton] at h1; omega
      subst this
      rw [List.getElem_append_right (Nat.le_refl _), List.getElem_append_right (by rw [h.len]; exact Nat.le_refl _)]
      simpa [h.len] using hx
  · by_cases hil : i < L.length
    · rw [List.getElem_append_left hil, List.getElem_append_left (by rw [← h.len]; exact hil)]
      exact hword (h.word i hil _)
    · have : i = L.length := by rw [List.length_append, List.length_singleton] at h1; omega
      subst this
      rw [List.getElem_append_right (Nat.le_refl _), List.getElem_append_right (by rw [h.len]; exact Nat.le_refl _)]
      simpa [h.len] using hword hw
/-- A row of one part, just built. -/
theorem PRow.one {w : World} {B g : Nat} (hB : B ≤ g) {pt : Pt} {x : Prt} (hb : w.heap[g]? = some (.cells pt.cs.toArray 39 (0, 0))) (hx : pt.is x) (hw : Wd w (fun k => B ≤ k ∧ k ≠ g) pt.wv x.word) : PRow w B (.slice (some ⟨g, 0, none⟩) 1 1) [x] [pt] := by
  refine ⟨⟨by simp [pcs, Pt.cs], .inr ⟨g, 1, pt.cs.toArray, rfl, hB, hb, Nat.le_refl _, by unfold maxLen; omega, rfl, by simp [pcs, Pt.cs]⟩⟩, rfl, fun i h1 h2 => ?_, fun i h1 h2 => ?_⟩
  · have : i = 0 := by simp at h1; exact h1
    subst this; exact hx
  · have : i = 0 := by simp at h1; exact h1
    subst this
    exact hw.mono fun k hk => ⟨hk.1, fun e => hk.2 (by simp [Value.ownBlock] at e; exact e.symm)⟩
theorem conv_one (c : UInt8) (w : World) : (convert 42 9 (.slice (some ⟨w.heap.size, 0, none⟩) 1 1)).run Try.prog (w.alloc (.cells #[.int .u8 c.toNat] 5)) = .ok (.string ⟨#[c]⟩) (w.alloc (.cells #[.int .u8 c.toNat] 5)) := by
  refine run_convert_bytes_back _ 42 9 5 ⟨w.heap.size, 0, none⟩ 1 [c] Try.underlying42 Try.underlying5 Try.underlying9 (fun j hj => ?_)
  rw [addn, Nat.zero_add]
  simp only [World.cell?, heap_alloc_new w]
  have : j = 0 := by simp at hj; exact hj
  subst this
  rfl
theorem size_alloc2 (w : World) (o : Obj) : (w.alloc o).heap.size = w.heap.size + 1 := by simp
/-- A word of two texts, built one behind the other. -/
theorem two_row (w : World) (k1 : Nat) (t1 : ByteArray) (k2 : Nat) (t2 : ByteArray) :
    ∃ (a : Option Addr) (c : Nat) (w' : World), (Builtin.append_ #[32, 32] 32 #[.slice (some ⟨w.heap.size, 0, none⟩) 1 1, .slice (some ⟨w.heap.size + 1, 0, none⟩) 1 1]).run Try.prog ((w.alloc (.cells #[.int .i64 k1, .string t1, .string ⟨#[]⟩, .string ⟨#[]⟩, .slice none 0 0, .bool false] 39)).alloc (.cells #[.int .i64 k2, .string t2, .string ⟨#[]⟩, .string ⟨#[]⟩, .slice none 0 0, .bool false] 39)) = .ok (.slice a 2 c) w' ∧
      Wd w' (fun k => w.heap.size ≤ k) (.slice a 2 c) [txt k1 t1.data.toList, txt k2 t2.data.toList] ∧ Below w.heap.size w w' := by
  have hb1 := (Below.refl w.heap.size w).alloc (Nat.le_refl _) (.cells #[.int .i64 k1, .string t1, .string ⟨#[]⟩, .string ⟨#[]⟩, .slice none 0 0, .bool false] 39)
  have h1 : PRow (w.alloc (.cells #[.int .i64 k1, .string t1, .string ⟨#[]⟩, .string ⟨#[]⟩, .slice none 0 0, .bool false] 39)) w.heap.size (.slice (some ⟨w.heap.size, 0, none⟩) 1 1) [txt k1 t1.data.toList] [⟨k1, t1, ⟨#[]⟩, ⟨#[]⟩, .slice none 0 0, false⟩] :=
    PRow.one (Nat.le_refl _) (heap_alloc_new w _) ⟨rfl, rfl, rfl, rfl, rfl⟩ (.nil 0)
  obtain ⟨a, c, w', hr, hrow, hb, _⟩ := h1.push (by rw [size_alloc2]; omega) (by show 1 ≤ 100000; omega) ⟨k2, t2, ⟨#[]⟩, ⟨#[]⟩, .slice none 0 0, false⟩ (txt k2 t2.data.toList) ⟨rfl, rfl, rfl, rfl, rfl⟩ (.nil 0)
  rw [size_alloc2] at hr
  exact ⟨a, c, w', hr, hrow.wd, hb1.trans hb⟩
end Go.Proofs.Ytafbheplaheohaa

namespace Go.Proofs.Ytafbheplaheohaa
open Go.RowKit
set_option linter.unusedVariables false

/-- append of a part that was just built. -/
theorem PRow.push2 {w : World} {B : Nat} {v : Value} {l : List Prt} {L : List Pt} (h : PRow w B v l L) (hB : B ≤ w.heap.size) (hl : L.length ≤ 100000) (pt : Pt) (x : Prt) (hx : pt.is x) (hw : Wd w (Sep B v) pt.wv x.word) :
    ∃ (a : Option Addr) (c : Nat) (w' : World), (Builtin.append_ #[32, 32] 32 #[v, .slice (some ⟨w.heap.size, 0, none⟩) 1 1]).run Try.prog (w.alloc (.cells pt.cs.toArray 39)) = .ok (.slice a (L.length + 1) c) w' ∧
      PRow w' B (.slice a (L.length + 1) c) (l ++ [x]) (L ++ [pt]) ∧ Below B w w' ∧ (∀ (k : Nat) (cur : Array Value) (ty : TypeId), ty ≠ 39 → w.heap[k]? = some (Obj.cells cur ty (0, 0)) → w'.heap[k]? = some (Obj.cells cur ty (0, 0))) ∧
      (∀ {u : Value} {m : List Prt}, Wd w (Sep B v) u m → Wd w' (Sep B (.slice a (L.length + 1) c)) u m) ∧ (∀ k, k < w.heap.size → v.ownBlock ≠ some k → w'.heap[k]? = w.heap[k]?) ∧ (∀ k, (Value.slice a (L.length + 1) c).ownBlock = some k → v.ownBlock = some k ∨ w.heap.size ≤ k) := by
  obtain ⟨i0, hi, hz0, hz1, hz2⟩ := info_parts info39
  have hbel : Below w.heap.size w (w.alloc (.cells pt.cs.toArray 39)) := (Below.refl _ _).alloc (Nat.le_refl _) _
  have hs1 : (w.alloc (.cells pt.cs.toArray 39)).heap.size = w.heap.size + 1 := by simp
  have hown : (w.alloc (.cells pt.cs.toArray 39)).ownsRow B 39 6 v L.length (pcs L) := own_keep h.own fun g c hg h1 => (hbel.block g (h.own.lt g hg).2).trans h1
  have u32 : Try.prog.underlying 32 = some (.slice 39) := by kernel_rfl
  obtain ⟨wa, wc, hwf⟩ := hw.form
  obtain ⟨v', wC, h2, h3, h4, h5⟩ := run_append_at (P := Try.prog) (w.alloc (.cells pt.cs.toArray 39)) B 32 32 39 i0 _ 6 88 u32 hi hz0 hz1 hz2 rfl (by decide) v L.length (pcs L) hown ⟨w.heap.size, 0, none⟩ 1 1 pt.cs rfl
    (fun j u hj => by
      rw [addn, Nat.zero_add]
      simp only [World.cell?, heap_alloc_new w]
      simpa using hj) (one_cell6 pt ⟨wa, _, wc, hwf⟩) (by unfold maxLen; omega) (by omega) (by omega) (by decide)
  obtain ⟨a, c, hf⟩ : ∃ a c, v' = .slice a (L.length + 1) c := by
    rcases own_form h3 with ⟨_, h0⟩ | ⟨g, c, e, _⟩
    · omega
    · exact ⟨_, c, e⟩
  subst hf
  have hbC : Below B w wC := (hbel.mono hB).trans ((Only.of_grown (S := fun i => v.ownBlock = some i) h4 (fun k hk => hk)).below (fun k hk => (hown.lt k hk).1) (by omega))
  have hkC : ∀ k, k < w.heap.size → v.ownBlock ≠ some k → wC.heap[k]? = w.heap[k]? := fun k hk hne => (h4.block k (by omega) (fun e => hne e.symm)).trans (hbel.block k hk)
  have hne : ∀ (k : Nat) (cur : Array Value) (ty : TypeId), ty ≠ 39 → w.heap[k]? = some (Obj.cells cur ty (0, 0)) → v.ownBlock ≠ some k := fun k cur ty ht hc e => by
    rcases own_form h.own with ⟨e1, _⟩ | ⟨g, c', e1, _, _, cur', e2⟩
    · rw [e1] at e; cases e
    · rw [e1] at e; cases e
      exact cells_ne hc e2 ht rfl
  have hword : ∀ {u : Value} {m : List Prt}, Wd w (fun k => B ≤ k ∧ v.ownBlock ≠ some k) u m → Wd wC (fun k => B ≤ k ∧ (Value.slice a (L.length + 1) c).ownBlock ≠ some k) u m := fun hu => by
    refine hu.keep fun k c' hk hc => ?_
    have hkl := (Array.getElem?_eq_some_iff.1 hc).1
    refine ⟨⟨hk.1, fun e => ?_⟩, (hkC k hkl hk.2).trans hc⟩
    rcases h5 with e2 | e2
    · exact hk.2 (e2.symm.trans e)
    · rw [e2] at e; injection e with e; omega
  refine ⟨a, c, wC, h2, ⟨?_, ?_, fun i h1 h2 => ?_, fun i h1 h2 => ?_⟩, hbC, fun k cur ty ht hc => (hkC k (Array.getElem?_eq_some_iff.1 hc).1 (hne k cur ty ht hc)).trans hc, hword, hkC, fun k hk => by
    rcases h5 with e2 | e2
    · exact .inl (e2.symm.trans hk)
    · rw [e2] at hk; injection hk with hk; right; omega⟩
  · rw [List.length_append, pcs_app]; exact h3
  · rw [List.length_append, List.length_append, h.len]; rfl
  · by_cases hil : i < L.length
    · rw [List.getElem_append_left hil, List.getElem_append_left (by rw [← h.len]; exact hil)]
      exact h.is i hil _
    · have : i = L.length := by rw [List.length_append, List.length_singleton] at h1; omega
      subst this
      rw [List.getElem_append_right (Nat.le_refl _), List.getElem_append_right (by rw [h.len]; exact Nat.le_refl _)]
      simpa [h.len] using hx
  · by_cases hil : i < L.length
    · rw [List.getElem_append_left hil, List.getElem_append_left (by rw [← h.len]; exact hil)]
      exact hword (h.word i hil _)
    · have : i = L.length := by rw [List.length_append, List.length_singleton] at h1; omega
      subst this
      rw [List.getElem_append_right (Nat.le_refl _), List.getElem_append_right (by rw [h.len]; exact Nat.le_refl _)]
      simpa [h.len] using hword hw
/-- A row, answered. -/
def RowP (w : World) (B : Nat) (l : List Prt) (e : Ending) (w' : World) : Prop := ∃ a n c L, e = .returned (.slice a n c) ∧ PRow w' B (.slice a n c) l L ∧ Below B w w'
theorem PRow.under {w w' : World} {B : Nat} {v : Value} {l : List Prt} {L : List Pt} (h : PRow w B v l L) (hb : Below w.heap.size w w') : PRow w' B v l L := h.keep fun g c _ h1 => (hb.block g (Array.getElem?_eq_some_iff.1 h1).1).trans h1
theorem PRow.n {w : World} {B : Nat} {a : Option Addr} {n c : Nat} {l : List Prt} {L : List Pt} (h : PRow w B (.slice a n c) l L) : n = l.length ∧ n = L.length := by
  have h1 : n = l.length := by
    obtain ⟨a', c', e⟩ := h.wd.form
    injection e
  exact ⟨h1, by rw [h.len]; exact h1⟩
set_option maxRecDepth 100000 in
set_option maxHeartbeats 4000000 in
theorem RPut_any {w : World} {B : Nat} {a : Option Addr} {n c : Nat} {l : List Prt} {L : List Pt} (h : PRow w B (.slice a n c) l L) (hB : B ≤ w.heap.size) (hl : l.length ≤ 90000) (ki : Int) (k : Nat) (hk : ki = (k : Int)) (t : ByteArray) (hne : k = 1 → t.data.toList ≠ []) :
    Calls Try.prog 40 #[.slice a n c, .agg #[.int .i64 ki, .string t, .string ⟨#[]⟩, .string ⟨#[]⟩, .slice none 0 0, .bool false]] w (RowP w B (l ++ [txt k t.data.toList])) := by
  obtain ⟨Q, hQ⟩ : ∃ Q, RowP w B (l ++ [txt k t.data.toList]) = Q := ⟨_, rfl⟩
  rw [hQ]
  have HQ := Lib.hid hQ
  have hbe := (Below.refl w.heap.size w).alloc (Nat.le_refl _) (.cells #[.int .i64 ki, .string t, .string ⟨#[]⟩, .string ⟨#[]⟩, .slice none 0 0, .bool false] 39)
  have hsz := size_alloc w (.cells #[.int .i64 ki, .string t, .string ⟨#[]⟩, .string ⟨#[]⟩, .slice none 0 0, .bool false] 39)
  obtain ⟨a2, c2, w2, r2, hrow2, hb2, _⟩ := (h.under hbe).push2 (by omega) (by rw [h.len]; omega) ⟨ki, t, ⟨#[]⟩, ⟨#[]⟩, .slice none 0 0, false⟩ (txt k t.data.toList) ⟨hk, rfl, rfl, rfl, rfl⟩ (.nil 0)
  obtain ⟨m, hm⟩ : ∃ m, L.length + 1 = m := ⟨_, rfl⟩
  rw [hm] at r2 hrow2
  rw [hsz] at r2
  have HEND : Hid (Q (.returned (.slice a2 m c2)) w2) := by rw [Hid, ← hQ]; exact ⟨a2, m, c2, _, rfl, hrow2, (hbe.mono hB).trans hb2⟩
  by_cases h1 : k = 1
  · have hE : t.toList.isEmpty = false := isE_ne (hne h1)
    have hki : ki = 1 := by omega
    subst hki
    clear hQ h hbe hsz hrow2 hb2 hk hne hm
    go_enter Try.func40, Try.ntmps40
    go_wp2_with (at_builtin; refine wpList_run_append _ rfl _ _ 32 32 rfl _ _ rfl rfl r2 ?_)
    exact HEND.out
  · have hz : (ki == 1) = false := beq_eq_false_iff_ne.2 (by omega)
    clear hQ h hbe hsz hrow2 hb2 hk hne hm
    go_enter Try.func40, Try.ntmps40
    go_wp2_with (at_builtin; refine wpList_run_append _ rfl _ _ 32 32 rfl _ _ rfl rfl r2 ?_)
    exact HEND.out
/-- The last part's text, changed in its place. -/
theorem PRow.setText {w : World} {B : Nat} {a : Option Addr} {n c : Nat} {l0 : List Prt} {y : Prt} {L0 : List Pt} {py : Pt} (h : PRow w B (.slice a n c) (l0 ++ [y]) (L0 ++ [py])) (t : ByteArray) :
    ∃ g, a = some ⟨g, 0, none⟩ ∧ n = L0.length + 1 ∧ w.frozen? ⟨g, L0.length * 6 + 1, none⟩ = false ∧
      PRow (w.setCell ⟨g, L0.length * 6 + 1, none⟩ (.string t)) B (.slice a n c) (l0 ++ [.mk y.kind t.data.toList y.name y.op y.word y.quoted]) (L0 ++ [⟨py.k, t, py.n, py.o, py.wv, py.q⟩]) := by
  have hn := h.n.2
  rw [List.length_append, List.length_singleton] at hn
  have hlen0 : L0.length = l0.length := by have := h.len; simpa using this
  rcases h.own.2 with ⟨_, h0⟩ | ⟨g, cap, cur, e, h2, h3, h4, h5, h6, h7⟩
  · simp at h0
  injection e with e1 e2 e3
  subst e1
  have hcs : L0.length * 6 + 6 ≤ cur.size := by
    rw [h6]
    have := Nat.mul_le_mul_right 6 h4
    simp at this; omega
  refine ⟨g, rfl, hn, by simp [World.frozen?, h3], ⟨⟨?_, .inr ⟨g, cap, _, by rw [hn, List.length_append, List.length_singleton, ← e3], h2, heap_set h3 _ _, by simpa using h4, h5, by rw [Array.size_setIfInBounds]; exact h6, ?_⟩⟩, ?_, fun i h1 h2 => ?_, fun i h1 h2 => ?_⟩⟩
  · rw [pcs_len]
  · rw [pcs_app] at h7 ⊢
    have hl7 := h7
    refine List.ext_getElem? fun i => ?_
    have hi : (cur.toList.take ((L0 ++ [py]).length * 6))[i]? = (pcs L0 ++ pcs [py])[i]? := by rw [h7]
    rw [List.getElem?_take, Array.getElem?_toList] at hi
    rw [List.getElem?_take, Array.getElem?_toList, Array.getElem?_setIfInBounds]
    have hll : (pcs L0).length = L0.length * 6 := pcs_len L0
    have hlen1 : (L0 ++ [py]).length = L0.length + 1 := by simp
    have hlen2 : (L0 ++ [(⟨py.k, t, py.n, py.o, py.wv, py.q⟩ : Pt)]).length = L0.length + 1 := by simp
    rw [hlen1] at hi
    rw [hlen2]
    by_cases h8 : i < L0.length * 6
    · rw [List.getElem?_append_left (by omega)] at hi ⊢
      rw [if_pos (by omega)] at hi ⊢
      rw [if_neg (by omega)]
      exact hi
    · obtain ⟨q, rfl⟩ : ∃ q, i = L0.length * 6 + q := ⟨i - L0.length * 6, by omega⟩
      rw [List.getElem?_append_right (by omega), hll, Nat.add_sub_cancel_left] at hi ⊢
      by_cases hq : q < 6
      · rw [if_pos (by omega)] at hi ⊢
        have hq6 : q = 0 ∨ q = 1 ∨ q = 2 ∨ q = 3 ∨ q = 4 ∨ q = 5 := by omega
        rcases hq6 with rfl | rfl | rfl | rfl | rfl | rfl
        all_goals first
          | (rw [if_neg (by omega)]; exact hi)
          | (rw [if_pos rfl, if_pos (by omega)]; rfl)
      · rw [if_neg (by omega), List.getElem?_eq_none (by first | (simp [pcs, Pt.cs]; done) | (simp [pcs, Pt.cs]; omega))]
  · simpa using h.len
  · by_cases hil : i < L0.length
    · have := h.is i (by simp; omega) (by simp; omega)
      rw [List.getElem_append_left hil, List.getElem_append_left (by omega)] at this ⊢
      exact this
    · have : i = L0.length := by simp at h1; omega
      subst this
      have := h.is L0.length (by simp) (by simp; omega)
      rw [List.getElem_append_right (Nat.le_refl _), List.getElem_append_right (by omega)] at this ⊢
      simp only [List.getElem_singleton] at this ⊢
      exact ⟨this.1, rfl, this.2.2.1, this.2.2.2.1, this.2.2.2.2⟩
  · have hkeep : ∀ {u m}, Wd w (fun k => B ≤ k ∧ (Value.slice (some ⟨g, 0, none⟩) n c).ownBlock ≠ some k) u m → Wd (w.setCell ⟨g, L0.length * 6 + 1, none⟩ (.string t)) (fun k => B ≤ k ∧ (Value.slice (some ⟨g, 0, none⟩) n c).ownBlock ≠ some k) u m := fun hu => hu.keep fun k cur hk hc => ⟨hk, (heap_other (fun e => hk.2 (by rw [e]; rfl)) _ _).trans hc⟩
    by_cases hil : i < L0.length
    · have := h.word i (by simp; omega) (by simp; omega)
      rw [List.getElem_append_left hil, List.getElem_append_left (by omega)] at this ⊢
      exact hkeep this
    · have : i = L0.length := by simp at h1; omega
      subst this
      have := h.word L0.length (by simp) (by simp; omega)
      rw [List.getElem_append_right (Nat.le_refl _), List.getElem_append_right (by omega)] at this ⊢
      simp only [List.getElem_singleton] at this ⊢
      exact hkeep this
end Go.Proofs.Ytafbheplaheohaa
