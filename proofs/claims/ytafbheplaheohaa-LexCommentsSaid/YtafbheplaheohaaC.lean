import Derived.Test.YtafbheplaheohaaB
import Derived.Test.YtafbheplaheohaaMC
import Derived.Deep.QuietTactic
import Derived.Laws.IdiomStrings
namespace Go.Proofs.Ytafbheplaheohaa
open Go.RowKit
set_option linter.unusedVariables false

theorem info39 : (Try.prog.info? 39).map (fun i => (i.zero, i.size, i.bytes)) = some (some (.agg #[.int .i64 0, .string ⟨#[]⟩, .string ⟨#[]⟩, .string ⟨#[]⟩, .slice none 0 0, .bool false]), 6, 88) := by kernel_rfl
theorem info5 : (Try.prog.info? 5).map (fun i => (i.zero, i.size, i.bytes)) = some (some (.int .u8 0), 1, 1) := by kernel_rfl
/-- append to an own row, and where the row lies behind it. -/
theorem run_append_at {P : Program} (w : World) (base : Nat) (t ty e : TypeId) (i : TypeInfo) (z : Value) (size bytes : Nat) (ht : P.underlying t = some (.slice e)) (hi : P.info? e = some i) (hz : i.zero = some z)
    (hsize : i.size = size) (hby : i.bytes = bytes) (hzs : z.cells.size = size) (hsz : 0 < size)
    (v : Value) (n : Nat) (xs : List Value) (hown : w.ownsRow base e size v n xs)
    (a : Addr) (m c : Nat) (news : List Value) (hl : news.length = m * size) (hnews : ∀ j u, news[j]? = some u → w.cell? (a.add j) = some u) (h1 : ∀ u ∈ news, u.oneCell' = true)
    (h63 : n + m ≤ maxLen) (hbytes : (n + m) * bytes ≤ 140737488355328) (hbase : base ≤ w.heap.size) (hm : 0 < m) :
    ∃ v' w', (Builtin.append_ #[t, t] ty #[v, .slice (some a) m c]).run P w = .ok v' w' ∧ w'.ownsRow base e size v' (n + m) (xs ++ news) ∧ w.grownBy w' v.ownBlock ∧
      (v'.ownBlock = v.ownBlock ∨ v'.ownBlock = some w.heap.size) := by
  obtain ⟨v', w', hr, h2, h3, h4⟩ := run_append_own (P := P) w base t ty e i z size bytes ht hi hz hsize hby hzs hsz v n xs hown a m c news hl hnews h1 h63 hbytes hbase
  refine ⟨v', w', hr, h2, h3, ?_⟩
  subst hsize
  unfold maxLen at h63
  rcases hown.2 with ⟨rfl, rfl⟩ | ⟨g, cap, cur, rfl, hbg, hg, hnc, hcm, hcs, htake⟩
  · have hr2 := run_append_nil (P := P) w t ty e i z ht hi hz a m c news hl hnews (by omega) (by omega) (by rw [hby]; rw [Nat.zero_add] at hbytes; omega)
    rw [hr2] at hr
    injection hr with e _
    right
    rw [← e]; rfl
  · by_cases hroom : n + m ≤ cap
    · have hfit : n * i.size + news.length ≤ cur.size := by
        rw [hl, hcs, ← Nat.add_mul]; exact Nat.mul_le_mul_right _ hroom
      have hr2 := run_append_room (P := P) w t ty e i ht hi g n cap cur hg a m c news hl hnews h1 hroom hfit
      rw [hr2] at hr
      injection hr with e _
      left
      rw [← e]; rfl
    · have holds : ∀ j x, xs[j]? = some x → w.cell? ((⟨g, 0, none⟩ : Addr).add j) = some x := hown.cells (g := g) rfl
      have hr2 := run_append_grow (P := P) w t ty e i z ht hi hz ⟨g, 0, none⟩ n cap xs hown.1 holds a m c news hl hnews (by omega) (by omega) (growslice_fits (by omega) (by rw [hby]; exact hbytes))
      rw [hr2] at hr
      injection hr with e _
      right
      rw [← e]; rfl
def zero6 : List Value := [.int .i64 0, .string ⟨#[]⟩, .string ⟨#[]⟩, .string ⟨#[]⟩, .slice none 0 0, .bool false]
def put6 (w : World) (g o : Nat) (p : Pt) : World :=
  (((((w.setCell ⟨g, o, none⟩ (.int .i64 p.k)).setCell ⟨g, o + 1, none⟩ (.string p.t)).setCell ⟨g, o + 2, none⟩ (.string p.n)).setCell ⟨g, o + 3, none⟩ (.string p.o)).setCell ⟨g, o + 4, none⟩ p.wv).setCell ⟨g, o + 5, none⟩ (.bool p.q)
theorem heap_set {w : World} {g : Nat} {cur : Array Value} {ty : TypeId} {fz : Nat × Nat} (h : w.heap[g]? = some (.cells cur ty fz)) (i : Nat) (v : Value) : (w.setCell ⟨g, i, none⟩ v).heap[g]? = some (.cells (cur.setIfInBounds i v) ty fz) := by
  have h1 : (w.heap.modify g fun | .cells c elem frozen => Obj.cells (if (none : Option Nat).isSome then c else c.setIfInBounds i v) elem frozen | o => o)[g]? = some (.cells (cur.setIfInBounds i v) ty fz) := by
    rw [Array.getElem?_modify, if_pos rfl, h]; rfl
  exact h1
theorem heap_other {w : World} {g k : Nat} (hne : k ≠ g) (i : Nat) (v : Value) : (w.setCell ⟨g, i, none⟩ v).heap[k]? = w.heap[k]? := Below.heap_setCell _ _ _ _ hne
theorem put6_at {w : World} {g : Nat} {cur : Array Value} {ty : TypeId} {fz : Nat × Nat} (h : w.heap[g]? = some (.cells cur ty fz)) (o : Nat) (p : Pt) :
    (put6 w g o p).heap[g]? = some (.cells ((((((cur.setIfInBounds o (.int .i64 p.k)).setIfInBounds (o + 1) (.string p.t)).setIfInBounds (o + 2) (.string p.n)).setIfInBounds (o + 3) (.string p.o)).setIfInBounds (o + 4) p.wv).setIfInBounds (o + 5) (.bool p.q)) ty fz) :=
  heap_set (heap_set (heap_set (heap_set (heap_set (heap_set h _ _) _ _) _ _) _ _) _ _) _ _
theorem put6_other {w : World} {g k : Nat} (hne : k ≠ g) (o : Nat) (p : Pt) : (put6 w g o p).heap[k]? = w.heap[k]? := by
  unfold put6
  rw [heap_other hne, heap_other hne, heap_other hne, heap_other hne, heap_other hne, heap_other hne]
theorem put6_below {w0 w : World} {B g : Nat} (h : Below B w0 w) (hg : B ≤ g) (o : Nat) (p : Pt) : Below B w0 (put6 w g o p) :=
  (((((h.setCell (p := ⟨g, _, none⟩) hg _).setCell (p := ⟨g, _, none⟩) hg _).setCell (p := ⟨g, _, none⟩) hg _).setCell (p := ⟨g, _, none⟩) hg _).setCell (p := ⟨g, _, none⟩) hg _).setCell (p := ⟨g, _, none⟩) hg _
theorem set_comm {w : World} {a b : Addr} (h : a.block ≠ b.block) (u v : Value) : (w.setCell a u).setCell b v = (w.setCell b v).setCell a u := by
  unfold World.setCell
  congr 1
  refine Array.ext_getElem? fun i => ?_
  simp only [Array.getElem?_modify]
  by_cases h1 : b.block = i
  · have h2 : ¬ a.block = i := fun e => h (e.trans h1.symm)
    rw [if_pos h1, if_neg h2, if_neg h2, if_pos h1]
  · by_cases h2 : a.block = i
    · rw [if_neg h1, if_pos h2, if_pos h2, if_neg h1]
    · rw [if_neg h1, if_neg h2, if_neg h2, if_neg h1]
theorem put6_comm {w : World} {g o b j : Nat} (h : b ≠ g) (p : Pt) (v : Value) : put6 (w.setCell ⟨b, j, none⟩ v) g o p = (put6 w g o p).setCell ⟨b, j, none⟩ v := by
  have k : ∀ (w : World) (i : Nat) (u : Value), (w.setCell ⟨b, j, none⟩ v).setCell ⟨g, i, none⟩ u = (w.setCell ⟨g, i, none⟩ u).setCell ⟨b, j, none⟩ v := fun w i u => set_comm (by exact h) v u
  unfold put6
  rw [k, k, k, k, k, k]
theorem take6 {cur : Array Value} {n : Nat} {xs : List Value} (hx : cur.toList.take (n * 6) = xs) (hs : (n + 1) * 6 ≤ cur.size) (c0 c1 c2 c3 c4 c5 : Value) :
    ((((((cur.setIfInBounds (n * 6) c0).setIfInBounds (n * 6 + 1) c1).setIfInBounds (n * 6 + 2) c2).setIfInBounds (n * 6 + 3) c3).setIfInBounds (n * 6 + 4) c4).setIfInBounds (n * 6 + 5) c5).toList.take ((n + 1) * 6) = xs ++ [c0, c1, c2, c3, c4, c5] := by
  have hl : xs.length = n * 6 := by rw [← hx]; simp; omega
  refine List.ext_getElem? fun i => ?_
  rw [List.getElem?_take, Array.getElem?_toList]
  by_cases h1 : i < n * 6
  · rw [if_pos (by omega), List.getElem?_append_left (by omega), ← hx, List.getElem?_take, if_pos h1, Array.getElem?_toList]
    simp only [Array.getElem?_setIfInBounds]
    rw [if_neg (by omega), if_neg (by omega), if_neg (by omega), if_neg (by omega), if_neg (by omega), if_neg (by omega)]
  · obtain ⟨q, rfl⟩ : ∃ q, i = n * 6 + q := ⟨i - n * 6, by omega⟩
    rw [List.getElem?_append_right (by omega), hl, Nat.add_sub_cancel_left]
    by_cases h2 : q < 6
    · rw [if_pos (by omega)]
      simp only [Array.getElem?_setIfInBounds, Array.size_setIfInBounds]
      have hq : q = 0 ∨ q = 1 ∨ q = 2 ∨ q = 3 ∨ q = 4 ∨ q = 5 := by omega
      rcases hq with rfl | rfl | rfl | rfl | rfl | rfl <;> simp <;> omega
    · rw [if_neg (by omega), List.getElem?_eq_none (by simp; omega)]
/-- Not the row v itself. -/
def Sep (B : Nat) (v : Value) (k : Nat) : Prop := B ≤ k ∧ v.ownBlock ≠ some k
theorem take_le {α : Type} {l : List α} {a b : Nat} {xs : List α} (h : l.take b = xs) (hab : a ≤ b) : l.take a = xs.take a := by rw [← h, List.take_take, Nat.min_eq_left hab]
/-- A part more, laid in the place that append made. -/
theorem PRow.place {w : World} {B : Nat} {v : Value} {l : List Prt} {L : List Pt} (h : PRow w B v l L) (hB : B ≤ w.heap.size) (hl : L.length ≤ 100000) {p : Pt} {x : Prt} (hx : p.is x) (hw : Wd w (Sep B v) p.wv x.word) :
    ∃ g cap wC cur, (Builtin.append_ #[32, 32] 32 #[v, .slice (some ⟨w.heap.size, 0, none⟩) 1 1]).run Try.prog (w.alloc (.cells zero6.toArray 39)) = .ok (.slice (some ⟨g, 0, none⟩) (L.length + 1) cap) wC ∧
      wC.heap[g]? = some (.cells cur 39 (0, 0)) ∧ (L.length + 1) * 6 ≤ cur.size ∧ B ≤ g ∧ Below B w wC ∧ (∀ k, k < w.heap.size → v.ownBlock ≠ some k → wC.heap[k]? = w.heap[k]?) ∧
      (∀ {u : Value} {m : List Prt}, Wd w (Sep B v) u m → Wd (put6 wC g (L.length * 6) p) (Sep B (.slice (some ⟨g, 0, none⟩) (L.length + 1) cap)) u m) ∧
      PRow (put6 wC g (L.length * 6) p) B (.slice (some ⟨g, 0, none⟩) (L.length + 1) cap) (l ++ [x]) (L ++ [p]) := by
  obtain ⟨i0, hi, hz0, hz1, hz2⟩ := info_parts info39
  have hbel : Below w.heap.size w (w.alloc (.cells zero6.toArray 39)) := (Below.refl _ _).alloc (Nat.le_refl _) _
  have hs1 : (w.alloc (.cells zero6.toArray 39)).heap.size = w.heap.size + 1 := by simp
  have hown : (w.alloc (.cells zero6.toArray 39)).ownsRow B 39 6 v L.length (pcs L) := own_keep h.own fun g c hg h1 => (hbel.block g (h.own.lt g hg).2).trans h1
  have u32 : Try.prog.underlying 32 = some (.slice 39) := by kernel_rfl
  obtain ⟨v', wC, h2, h3, h4, h5⟩ := run_append_at (P := Try.prog) (w.alloc (.cells zero6.toArray 39)) B 32 32 39 i0 _ 6 88 u32 hi hz0 hz1 hz2 rfl (by decide) v L.length (pcs L) hown ⟨w.heap.size, 0, none⟩ 1 1 zero6 rfl
    (fun j u hj => by
      rw [addn, Nat.zero_add]
      simp only [World.cell?, heap_alloc_new w]
      simpa using hj) (by decide) (by unfold maxLen; omega) (by omega) (by omega) (by decide)
  have hbC : Below B w wC := (hbel.mono hB).trans ((Only.of_grown (S := fun i => v.ownBlock = some i) h4 (fun k hk => hk)).below (fun k hk => (hown.lt k hk).1) (by omega))
  have hkC : ∀ k, k < w.heap.size → v.ownBlock ≠ some k → wC.heap[k]? = w.heap[k]? := fun k hk hne => (h4.block k (by omega) (fun e => hne e.symm)).trans (hbel.block k hk)
  rcases h3.2 with ⟨_, h0⟩ | ⟨g, cap, cur, rfl, g1, g2, g3, g4, g5, g6⟩
  · omega
  have hsz : (L.length + 1) * 6 ≤ cur.size := by rw [g5]; exact Nat.mul_le_mul_right _ g3
  have hword : ∀ {u : Value} {m : List Prt}, Wd w (fun k => B ≤ k ∧ v.ownBlock ≠ some k) u m → Wd (put6 wC g (L.length * 6) p) (fun k => B ≤ k ∧ (Value.slice (some ⟨g, 0, none⟩) (L.length + 1) cap).ownBlock ≠ some k) u m := fun hu => by
    refine hu.keep fun k c hk hc => ?_
    have hkl := (Array.getElem?_eq_some_iff.1 hc).1
    have hne : k ≠ g := by
      rintro rfl
      rcases h5 with e | e
      · exact hk.2 (e.symm.trans rfl)
      · simp [Value.ownBlock] at e; omega
    refine ⟨⟨hk.1, fun e => ?_⟩, ?_⟩
    · simp [Value.ownBlock] at e; exact hne e.symm
    · rw [put6_other hne, hkC k hkl hk.2]; exact hc
  refine ⟨g, cap, wC, cur, h2, g2, hsz, g1, hbC, hkC, hword, ⟨?_, .inr ⟨g, cap, _, by rw [List.length_append]; rfl, g1, put6_at g2 _ _, by rw [List.length_append]; exact g3, g4, ?_, ?_⟩⟩, ?_, fun i h1 h2 => ?_, fun i h1 h2 => ?_⟩
  · rw [pcs_len]
  · simp only [Array.size_setIfInBounds]; exact g5
  · rw [List.length_append, List.length_singleton, pcs_app]
    have ht := take_le (a := L.length * 6) g6 (by omega)
    rw [List.take_append_of_le_length (by rw [pcs_len]; exact Nat.le_refl _), List.take_of_length_le (l := pcs L) (by rw [pcs_len]; exact Nat.le_refl _)] at ht
    exact take6 ht hsz _ _ _ _ _ _
  · rw [List.length_append, List.length_append, h.len]; rfl
  · by_cases hil : i < L.length
    · rw [List.getElem_append_left hil, List.getElem_append_left (by rw [← h.len]; exact hil)]
      exact h.is i hil _
    · have : i = L.length := by rw [List.length_append, List.length_singleton] at h1; omega
      subst this
      rw [List.getElem_append_right (Nat.le_refl _), List.getElem_append_right (by rw [h.len]; exact Nat.le_refl _)]
      simpa [h.len] using hx
  · by_cases hil : i < L.length
    · rw [List.getElem_append_left hil, List.getElem_append_left (by rw [← h.len]; exact hil)]
      exact hword (h.word i hil _)
    · have : i = L.length := by rw [List.length_append, List.length_singleton] at h1; omega
      subst this
      rw [List.getElem_append_right (Nat.le_refl _), List.getElem_append_right (by rw [h.len]; exact Nat.le_refl _)]
      simpa [h.len] using hword hw
def u8s (l : Bz) : List Value := l.map fun c => .int .u8 c.toNat
theorem u8s_len (l : Bz) : (u8s l).length = l.length := List.length_map ..
/-- The parts of a word that are being gathered, at block pb. -/
structure PAt (w : World) (B pb : Nat) (lv : Value) (p : PS) : Prop where
  ex : ∃ bv L, w.heap[pb]? = some (.cells [lv, .int .i64 p.kind, bv, .bool p.quotes].toArray 68 (0, 0)) ∧ PRow w B lv p.list L ∧ w.ownsRow B 5 1 bv p.bytes.length (u8s p.bytes)
  ge : B ≤ pb
theorem cells_ne {w : World} {a b : Nat} {c d : Array Value} {t u : TypeId} {f f' : Nat × Nat} (h1 : w.heap[a]? = some (.cells c t f)) (h2 : w.heap[b]? = some (.cells d u f')) (hne : t ≠ u) : a ≠ b := by
  rintro rfl
  rw [h1] at h2
  injection h2 with h2
  injection h2 with _ h2 _
  exact hne h2
/-- A change below the base, or of a block of another kind, leaves them. -/
theorem PAt.keep {w w' : World} {B pb : Nat} {lv : Value} {p : PS} (h : PAt w B pb lv p) (hk : ∀ (g : Nat) (c : Array Value) (ty : TypeId), B ≤ g → (ty = 68 ∨ ty = 39 ∨ ty = 5) → w.heap[g]? = some (Obj.cells c ty (0, 0)) → w'.heap[g]? = some (Obj.cells c ty (0, 0))) : PAt w' B pb lv p := by
  obtain ⟨bv, L, h1, h2, h3⟩ := h.ex
  exact ⟨⟨bv, L, hk _ _ _ h.ge (.inl rfl) h1, h2.keep fun g c hg hc => hk g c 39 hg (.inr (.inl rfl)) hc, own_keep h3 fun g c hg hc => hk g c 5 (h3.lt g hg).1 (.inr (.inr rfl)) hc⟩, h.ge⟩
end Go.Proofs.Ytafbheplaheohaa

namespace Go.Proofs.Ytafbheplaheohaa
open Go.RowKit
set_option linter.unusedVariables false

theorem own_form {w : World} {B e sz n : Nat} {v : Value} {xs : List Value} (h : w.ownsRow B e sz v n xs) : (v = .slice none 0 0 ∧ n = 0) ∨ ∃ g c, v = .slice (some ⟨g, 0, none⟩) n c ∧ n ≤ c ∧ B ≤ g ∧ ∃ cur, w.heap[g]? = some (.cells cur e (0, 0)) := by
  rcases h.2 with ⟨h1, h2⟩ | ⟨g, c, cur, h1, h2, h3, h4, _⟩
  · exact .inl ⟨h1, h2⟩
  · exact .inr ⟨g, c, h1, h4, h2, cur, h3⟩
theorem own_zero {w : World} {B e sz n g c : Nat} {xs : List Value} (h : w.ownsRow B e sz (.slice (some ⟨g, 0, none⟩) n c) n xs) : w.ownsRow B e sz (.slice (some ⟨g, 0, none⟩) 0 c) 0 [] := by
  refine ⟨by simp, ?_⟩
  rcases h.2 with ⟨h1, h2⟩ | ⟨g', c', cur, h1, h2, h3, h4, h5, h6, h7⟩
  · cases h1
  · cases h1
    exact .inr ⟨g, c, cur, rfl, h2, h3, Nat.zero_le _, h5, h6, by simp⟩
theorem own_conv {w : World} {B : Nat} {v : Value} {l : List UInt8} (h : w.ownsRow B 5 1 v l.length (u8s l)) : (convert 42 9 v).run Try.prog w = .ok (.string ⟨l.toArray⟩) w := by
  by_cases hn : 0 < l.length
  · obtain ⟨g, cap, rfl, _⟩ := h.form hn
    refine run_convert_bytes_back w 42 9 5 ⟨g, 0, none⟩ cap l Try.underlying42 Try.underlying5 Try.underlying9 (fun j hj => ?_)
    have := World.ownsRow.cellAt h j (by omega)
    rw [addn, Nat.zero_add, this]
    simp [u8s, hj]
  · have hl : l = [] := List.length_eq_zero_iff.1 (by omega)
    subst hl
    rcases h.2 with ⟨h1, _⟩ | ⟨g, cap, cur, h1, _⟩
    · rw [h1]
      exact run_convert_bytes_nil w 42 5 Try.underlying42 Try.underlying5 0 0 9 Try.underlying9
    · rw [h1]
      exact run_convert_bytes_back w 42 9 5 ⟨g, 0, none⟩ cap [] Try.underlying42 Try.underlying5 Try.underlying9 (fun j hj => absurd hj (by simp))
theorem ev {b : Act} {t : Nat} {v : Value} (h : b.eval (.tmp t) = v) : b.tmps[t]?.getD undef = v := by
  rw [← h]
  show _ = b.tmps.getD t undef
  rw [Array.getD_eq_getD_getElem?]
/-- What a call that gathers leaves: the parts, and words that are no part of the row. -/
def Gath (w w' : World) (B pb : Nat) (lv : Value) (p : PS) : Prop := ∃ lv', PAt w' B pb lv' p ∧ Below B w w' ∧ ∀ {u : Value} {m : List Prt}, Wd w (Sep B lv) u m → Wd w' (Sep B lv') u m
def FlushP (w : World) (B pb : Nat) (lv : Value) (p : PS) (e : Ending) (w' : World) : Prop := e = .returned (.tuple #[]) ∧ Gath w w' B pb lv p
/-- Behind p.bytes = p.bytes[:0]. -/
theorem flush_end {w0 w : World} {B pb : Nat} {p : PS} {lv0 lv : Value} {l : List Prt} {L : List Pt} {g c : Nat} {n : Nat} {ys : List Value} (hb : w.heap[pb]? = some (.cells [lv, .int .i64 p.kind, .slice (some ⟨g, 0, none⟩) n c, .bool p.quotes].toArray 68 (0, 0)))
    (hl : PRow w B lv l L) (hby : w.ownsRow B 5 1 (.slice (some ⟨g, 0, none⟩) n c) n ys) (hge : B ≤ pb) (hw : Below B w0 w) (hfl : p.flush.list = l) (hsep : ∀ {u : Value} {m : List Prt}, Wd w0 (Sep B lv0) u m → Wd w (Sep B lv) u m) :
    FlushP w0 B pb lv0 p.flush (.returned (.tuple #[])) (w.setCell ⟨pb, 2, none⟩ (.slice (some ⟨g, 0, none⟩) 0 c)) := by
  refine ⟨rfl, lv, ⟨⟨.slice (some ⟨g, 0, none⟩) 0 c, L, set_of hb 2 _, ?_, ?_⟩, hge⟩, hw.setCell hge _, fun hu => (hsep hu).keep fun k cur hk hc => ⟨hk, (heap_other (cells_ne hc hb (by decide)) _ _).trans hc⟩⟩
  · rw [hfl]
    exact hl.keep fun k cur hk hc => (heap_other (cells_ne hc hb (by decide)) _ _).trans hc
  · show World.ownsRow _ B 5 1 _ 0 []
    exact own_keep (own_zero hby) fun k cur hk hc => (heap_other (cells_ne hc hb (by decide)) _ _).trans hc
set_option maxRecDepth 100000 in
set_option maxHeartbeats 4000000 in
theorem flush_any {w : World} {B pb : Nat} {lv : Value} {p : PS} (h : PAt w B pb lv p) (hz : p.sz ≤ 100000) (hB : B ≤ w.heap.size) : Calls Try.prog 51 #[.pointer (some ⟨pb, 0, none⟩)] w (FlushP w B pb lv p.flush) := by
  obtain ⟨bv, L, hb, hl, hby⟩ := h.ex
  have hge := h.ge
  have hLn : L.length ≤ 100000 := by have := hl.len; unfold PS.sz at hz; omega
  obtain ⟨la, lc, hlf⟩ := hl.wd.form
  rw [← hl.len] at hlf
  subst hlf
  obtain ⟨Q, hQ⟩ : ∃ Q, FlushP w B pb (.slice la L.length lc) p.flush = Q := ⟨_, rfl⟩
  rw [hQ]
  have HQ := Lib.hid hQ
  have HL := Lib.hid hl
  have HBY := Lib.hid hby
  have HB := Lib.hid hb
  have q0 : w.cell? ⟨pb, 0, none⟩ = some (.slice la L.length lc) := cell_of hb 0
  have q1 : w.cell? ⟨pb, 1, none⟩ = some (.int .i64 p.kind) := cell_of hb 1
  have q2 : w.cell? ⟨pb, 2, none⟩ = some bv := cell_of hb 2
  have f2 := free_of hb 2
  by_cases h0 : p.bytes = []
  · have hfl : Hid (p.flush.list = p.list) := by rw [Hid]; unfold PS.flush; rw [if_pos h0]
    rw [h0] at HBY hby
    rcases own_form hby with ⟨rfl, _⟩ | ⟨g, c, rfl, _⟩
    · have HE : Hid (FlushP w B pb (.slice la L.length lc) p.flush (.returned (.tuple #[])) (w.setCell ⟨pb, 2, none⟩ (.slice none 0 0))) := by
        refine ⟨rfl, _, ⟨⟨.slice none 0 0, L, set_of hb 2 _, ?_, World.ownsRow_nil _ _ _ _⟩, hge⟩, (Below.refl _ _).setCell hge _, fun hu => hu.keep fun k cur hk hc => ⟨hk, (heap_other (cells_ne hc hb (by decide)) _ _).trans hc⟩⟩
        rw [hfl.out]
        exact hl.keep fun k cur hk hc => (heap_other (cells_ne hc hb (by decide)) _ _).trans hc
      have hsl : ∀ w, (Instr.slice 42 (.slice none 0 0) none (some (.int .i64 0)) none).run Try.prog w = .ok (.slice none 0 0) w := fun w => by kernel_rfl
      clear hQ hl hb h0 hby h
      go_enter Try.func51, Try.ntmps51
      go_wp2_with fail
      go_end0
      rw [← HQ.out]; exact HE.out
    · have HE : Hid (FlushP w B pb (.slice la L.length lc) p.flush (.returned (.tuple #[])) (w.setCell ⟨pb, 2, none⟩ (.slice (some ⟨g, 0, none⟩) 0 c))) := flush_end hb hl hby hge (Below.refl _ _) hfl.out (fun h => h)
      clear hQ hl hb h0 hby h
      go_enter Try.func51, Try.ntmps51
      go_wp2_with fail
      go_end0
      rw [← HQ.out]; exact HE.out
  · have hbl : 0 < p.bytes.length := List.length_pos_iff.2 h0
    rcases own_form hby with ⟨_, e0⟩ | ⟨bg, bc, rfl, hbc, _⟩
    · omega
    obtain ⟨bn, hbn⟩ : ∃ bn, p.bytes.length = bn := ⟨_, rfl⟩
    have hfl : Hid (p.flush.list = p.list ++ [txt p.kind p.bytes]) := by rw [Hid]; unfold PS.flush; rw [if_neg h0]
    have hd : decide ((0 : Int) < (bn : Int)) = true := decide_eq_true (by omega)
    have hx : (Pt.mk p.kind ⟨p.bytes.toArray⟩ ⟨#[]⟩ ⟨#[]⟩ (.slice none 0 0) false).is (txt p.kind p.bytes) := ⟨rfl, rfl, rfl, rfl, rfl⟩
    obtain ⟨g, cap, wC, cur, hrun, hg, hcs, hgB, hbC, hkC, hsep, hrow⟩ := PRow.place (w := w.drew) (hl.keep (fun _ _ _ h => h)) hB hLn hx (.nil 0)
    have hgp : pb ≠ g := fun e => by
      have h1 := hkC pb (blk_lt hb) (fun e => ?_)
      · rw [← e, h1] at hg
        exact cells_ne hb hg (by decide) rfl
      · rcases own_form hl.own with ⟨e1, _⟩ | ⟨g', c', e1, _, _, cur', e2⟩
        · rw [e1] at e; cases e
        · rw [e1] at e; cases e
          exact cells_ne hb e2 (by decide) rfl
    have hWB : (w.drew.alloc (.cells zero6.toArray 39)).heap.size = w.heap.size + 1 := by simp
    have keepB : ∀ k c ty, w.heap[k]? = some (Obj.cells c ty (0, 0)) → (w.drew.alloc (.cells zero6.toArray 39)).heap[k]? = some (Obj.cells c ty (0, 0)) := fun k c ty hk => by
      rw [(MapKept.heap_alloc _ _).2 k (by have := (Array.getElem?_eq_some_iff.1 hk).1; simpa using this)]; exact hk
    have hcv1 := own_conv (w := w.drew) (own_keep hby fun _ _ _ h => h)
    have hcv2 := own_conv (w := w.drew.alloc (.cells zero6.toArray 39)) (own_keep hby fun _ _ _ h => keepB _ _ _ h)
    rw [hbn] at hcv1 hcv2 HBY q2
    have q0' := cell_of (keepB _ _ _ hb) 0
    have q1' := cell_of (keepB _ _ _ hb) 1
    have q2' := cell_of (keepB _ _ _ hb) 2
    simp only [List.getElem?_cons_zero, List.getElem?_cons_succ] at q0' q1' q2'
    rw [hbn] at q2'
    have hpC : wC.heap[pb]? = some (.cells [.slice la L.length lc, .int .i64 p.kind, .slice (some ⟨bg, 0, none⟩) bn bc, .bool p.quotes].toArray 68 (0, 0)) := by
      rw [hkC pb (blk_lt hb) (fun e => by
        rcases own_form hl.own with ⟨e1, _⟩ | ⟨g', c', e1, _, _, cur', e2⟩
        · rw [e1] at e; cases e
        · rw [e1] at e; cases e
          exact cells_ne hb e2 (by decide) rfl)]
      rw [← hbn]; exact hb
    obtain ⟨wB, hwB⟩ : ∃ wB, w.drew.alloc (.cells zero6.toArray 39) = wB := ⟨_, rfl⟩
    rw [hwB] at hcv2 q0' q1' q2' hrun
    have HWB := Lib.hid hwB
    obtain ⟨pt, hpt⟩ : ∃ pt, Pt.mk p.kind ⟨p.bytes.toArray⟩ ⟨#[]⟩ ⟨#[]⟩ (.slice none 0 0) false = pt := ⟨_, rfl⟩
    rw [hpt] at hrow hsep
    have HPT := Lib.hid hpt
    have HRUN := Lib.hid hrun
    have HBC := Lib.hid hbC
    have hgp' : g ≠ pb := fun e => hgp e.symm
    obtain ⟨wE, hwE⟩ : ∃ wE, wC.setCell ⟨pb, 0, none⟩ (.slice (some ⟨g, 0, none⟩) (L.length + 1) cap) = wE := ⟨_, rfl⟩
    obtain ⟨wD, hwD⟩ : ∃ wD, put6 wC g (L.length * 6) pt = wD := ⟨_, rfl⟩
    have hDE : put6 wE g (L.length * 6) pt = wD.setCell ⟨pb, 0, none⟩ (.slice (some ⟨g, 0, none⟩) (L.length + 1) cap) := by rw [← hwE, ← hwD]; exact put6_comm hgp pt _
    have hpD : wD.heap[pb]? = some (.cells [.slice la L.length lc, .int .i64 p.kind, .slice (some ⟨bg, 0, none⟩) bn bc, .bool p.quotes].toArray 68 (0, 0)) := by rw [← hwD]; exact (put6_other hgp _ _).trans hpC
    have e0 := free_of hpC 0
    have e0D := free_of hpD 0
    have eG : ∀ q, wC.frozen? ⟨g, q, none⟩ = false := fun q => by simp [World.frozen?, hg]
    have hgE : wE.heap[g]? = wC.heap[g]? := by rw [← hwE]; exact heap_other (w := wC) (k := g) hgp' 0 _
    have eGE : ∀ q, wE.frozen? ⟨g, q, none⟩ = false := fun q => by simp [World.frozen?, hgE, hg]
    have hne39 : ∀ k c, w.heap[k]? = some (Obj.cells c 5 (0, 0)) → (Value.slice la L.length lc).ownBlock ≠ some k := fun k c hc e => by
      rcases own_form hl.own with ⟨e1, _⟩ | ⟨g', c', e1, _, _, cur', e2⟩
      · rw [e1] at e; cases e
      · rw [e1] at e; cases e
        exact cells_ne hc e2 (by decide) rfl
    have hbyC := own_keep hby (w' := wC) fun k c hk hc => (hkC k (Array.getElem?_eq_some_iff.1 hc).1 (hne39 k c hc)).trans hc
    have hbyD := own_keep hbyC (w' := wD) fun k c hk hc => by rw [← hwD]; exact (put6_other (cells_ne hc hg (by decide)) _ _).trans hc
    rw [hbn] at hbyD
    have hbelD : Below B w wD := by
      rw [← hwD]
      exact put6_below ((below_drewN (Below.refl _ w) 1).mono hB |>.trans HBC.out) hgB _ _
    have HBY2 := Lib.hid (And.intro hbyD hbelD)
    have zc : ∀ q, q < 6 → ∃ z, wC.cell? ⟨g, L.length * 6 + q, none⟩ = some z := fun q hq => by
      have h1 : L.length * 6 + q < cur.size := by omega
      exact ⟨cur[L.length * 6 + q], by simp [World.cell?, hg, h1]⟩
    have zE : ∀ a : Nat, wE.cell? ⟨g, a, none⟩ = wC.cell? ⟨g, a, none⟩ := fun a => by simp only [World.cell?, hgE]
    have HZ := Lib.hid (And.intro zc zE)
    have HPC := Lib.hid hpC
    have HALL := Lib.hid (And.intro hpD (And.intro eG (And.intro eGE (And.intro e0 (And.intro e0D (And.intro hwE (And.intro hwD hDE)))))))
    rw [hwD] at hrow hsep
    have HSEP : Hid (∀ {u : Value} {m : List Prt}, Wd w (Sep B (.slice la L.length lc)) u m → Wd wD (Sep B (.slice (some ⟨g, 0, none⟩) (L.length + 1) cap)) u m) := fun hu => hsep (Wd.keep (w := w) (w' := w.drew) (fun _ _ h1 h2 => ⟨h1, h2⟩) hu)
    have HROW := Lib.hid hrow
    clear hQ hl hb h0 hby h hwB hpt hrow hrun hbC hpD hpC hkC eG eGE e0 e0D hgE hcs hg keepB hWB hx hwE hwD hDE hbyC hbyD hbelD zc zE hne39 hsep
    go_enter Try.func51, Try.ntmps51
    go_wp2_with fail
    have q0d : w.drew.cell? ⟨pb, 0, none⟩ = some (.slice la L.length lc) := q0
    have q1d : w.drew.cell? ⟨pb, 1, none⟩ = some (.int .i64 p.kind) := q1
    have q2d : w.drew.cell? ⟨pb, 2, none⟩ = some (.slice (some ⟨bg, 0, none⟩) bn bc) := q2
    refine wp_region_place 15 36 23 24 25 26 27 21 8 11 22 _ _ _ _ _ _ _ wB wC wD wE (wD.setCell ⟨pb, 0, none⟩ (.slice (some ⟨g, 0, none⟩) (L.length + 1) cap))
      (.slice (some ⟨w.heap.size, 0, none⟩) 1 1) (.slice (some ⟨g, 0, none⟩) (L.length + 1) cap) (.pointer (some ⟨g, L.length * 6, none⟩)) undef (.pointer (some ⟨pb, 0, none⟩)) (.pointer (some ⟨pb, 0, none⟩)) undef
      (.slice la L.length lc) (.agg #[.int .i64 p.kind, .string ⟨p.bytes.toArray⟩, .string ⟨#[]⟩, .string ⟨#[]⟩, .slice none 0 0, .bool false]) (.pointer (some ⟨pb, 0, none⟩)) (.int .i64 L.length)
      (by kernel_rfl) (by kernel_rfl) (by kernel_rfl) (by kernel_rfl) (Nat.le_refl 36) rfl (by kernel_rfl) (by kernel_rfl) (by kernel_rfl) ?_ ?_ ?_ ?_ ?_ ?_ ?_ ?_
    · intro b
      rw [← HWB.out]
      unfold Goes
      go_simp
      exact ⟨rfl, rfl⟩
    · intro b e1 e2
      replace e1 := ev e1
      replace e2 := ev e2
      have hrun : (Builtin.append_ #[32, 32] 32 #[.slice la L.length lc, .slice (some ⟨w.heap.size, 0, none⟩) 1 1]).run Try.prog wB = .ok (.slice (some ⟨g, 0, none⟩) (L.length + 1) cap) wC := HRUN.out
      unfold Goes
      simp [execOp, resolve, invoke, builtin, Act.eval, e1, e2, hrun, Result.andThen, GoesR]
    · intro b x e1 e2
      replace e1 := ev e1
      replace e2 := ev e2
      have a6 := addn g 0 (L.length * 6)
      rw [Nat.zero_add] at a6
      have hlt : (L.length : Int) < (L.length : Int) + 1 := by omega
      unfold Goes
      go_simp
      exact ⟨rfl, rfl⟩
    · intro b e1 e2
      replace e1 := ev e1
      replace e2 := ev e2
      obtain ⟨hpD, eG, eGE, e0, e0D, hwE, hwD, hDE⟩ := HALL.out
      have ad := addn g (L.length * 6)
      rw [← hDE, ← hwD, ← HPT.out]
      obtain ⟨zc, zE⟩ := HZ.out
      obtain ⟨z0, c0⟩ := zc 0 (by decide)
      obtain ⟨z1, c1⟩ := zc 1 (by decide)
      obtain ⟨z2, c2⟩ := zc 2 (by decide)
      obtain ⟨z3, c3⟩ := zc 3 (by decide)
      obtain ⟨z4, c4⟩ := zc 4 (by decide)
      obtain ⟨z5, c5⟩ := zc 5 (by decide)
      rw [Nat.add_zero] at c0
      have d0 := (zE _).trans c0
      have d1 := (zE _).trans c1
      have d2 := (zE _).trans c2
      have d3 := (zE _).trans c3
      have d4 := (zE _).trans c4
      have d5 := (zE _).trans c5
      clear hDE hwD hwE hpD e0 e0D zc zE
      unfold Goes put6
      constructor
      · go_simp
        exact ⟨rfl, rfl⟩
      · go_simp
        exact ⟨rfl, rfl⟩
    · intro b x e1
      replace e1 := ev e1
      unfold Goes
      go_simp
      exact ⟨rfl, rfl⟩
    · intro b x e1
      replace e1 := ev e1
      unfold Goes
      go_simp
      exact ⟨rfl, rfl⟩
    · intro b e1 e2
      replace e1 := ev e1
      replace e2 := ev e2
      obtain ⟨hpD, eG, eGE, e0, e0D, hwE, hwD, hDE⟩ := HALL.out
      rw [← hwE]
      have p0 : wC.cell? ⟨pb, 0, none⟩ = some (.slice la L.length lc) := cell_of HPC.out 0
      have p0D : wD.cell? ⟨pb, 0, none⟩ = some (.slice la L.length lc) := cell_of hpD 0
      clear eG eGE hDE hwD hwE
      unfold Goes
      constructor
      · go_simp
        exact ⟨rfl, rfl⟩
      · go_simp
        exact ⟨rfl, rfl⟩
    · simp only [List.take_succ_cons, List.take_zero]
      repeat (go_big_quiet_step (fail))
      refine wpQuiet_nil ?_
      refine ⟨rfl, rfl, rfl, rfl, ?_, ?_⟩
      · repeat (go_big_quiet_step (fail))
        exact wpQuiet_nil rfl
      · have p2 : wD.cell? ⟨pb, 2, none⟩ = some (.slice (some ⟨bg, 0, none⟩) bn bc) := cell_of HALL.out.1 2
        have p2f := free_of HALL.out.1 2
        go_wp2_with fail
        go_end0
        rw [← HQ.out]
        refine flush_end (w := wD.setCell ⟨pb, 0, none⟩ (.slice (some ⟨g, 0, none⟩) (L.length + 1) cap)) (set_of HALL.out.1 0 _) (HROW.out.keep fun k c hk hc => (heap_other (cells_ne hc HALL.out.1 (by decide)) _ _).trans hc)
          (own_keep HBY2.out.1 fun k c hk hc => (heap_other (cells_ne hc HALL.out.1 (by decide)) _ _).trans hc) hge (HBY2.out.2.setCell hge _) hfl.out (fun hu => (HSEP.out hu).keep fun k c hk hc => ⟨hk, (heap_other (cells_ne hc HALL.out.1 (by decide)) _ _).trans hc⟩)
end Go.Proofs.Ytafbheplaheohaa

namespace Go.Proofs.Ytafbheplaheohaa
open Go.RowKit
set_option linter.unusedVariables false

theorem Gath.trans {w w1 w2 : World} {B pb : Nat} {lv : Value} {p q : PS} (h : Gath w w1 B pb lv p) (k : ∀ lv1, PAt w1 B pb lv1 p → Gath w1 w2 B pb lv1 q) : Gath w w2 B pb lv q := by
  obtain ⟨lv1, h1, h2, h3⟩ := h
  obtain ⟨lv2, k1, k2, k3⟩ := k lv1 h1
  exact ⟨lv2, k1, h2.trans k2, fun hu => k3 (h3 hu)⟩
theorem Gath.refl {w : World} {B pb : Nat} {lv : Value} {p : PS} (h : PAt w B pb lv p) : Gath w w B pb lv p := ⟨lv, h, Below.refl _ _, fun hu => hu⟩
/-- New blocks leave what is gathered. -/
theorem PAt.under {w w' : World} {B pb : Nat} {lv : Value} {p : PS} (h : PAt w B pb lv p) (hb : Below w.heap.size w w') : PAt w' B pb lv p :=
  h.keep fun g c ty _ _ hc => (hb.block g (Array.getElem?_eq_some_iff.1 hc).1).trans hc
theorem Gath.under {w w' : World} {B pb : Nat} {lv : Value} {p : PS} (h : PAt w B pb lv p) (hB : B ≤ w.heap.size) (hb : Below w.heap.size w w') : Gath w w' B pb lv p :=
  ⟨lv, h.under hb, hb.mono hB, fun hu => hu.under hb⟩
/-- append(p.bytes, s...). -/
theorem PAt.bytes {w w1 : World} {B pb : Nat} {lv bv bv' : Value} {k : Nat} {p : PS} {L : List Pt} {bl : Bz} (hb : w.heap[pb]? = some (.cells [lv, .int .i64 k, bv, .bool p.quotes].toArray 68 (0, 0))) (hl : PRow w B lv p.list L) (hge : B ≤ pb)
    (hby : w1.ownsRow B 5 1 bv' bl.length (u8s bl)) (hgr : w.grownBy w1 bv.ownBlock) (hbv : ∀ g, bv.ownBlock = some g → B ≤ g ∧ ∃ c, w.heap[g]? = some (.cells c 5 (0, 0))) (hB : B ≤ w.heap.size) :
    Gath w (w1.setCell ⟨pb, 2, none⟩ bv') B pb lv ⟨p.list, k, bl, p.quotes⟩ := by
  have key : ∀ g c ty, ty ≠ 5 → w.heap[g]? = some (Obj.cells c ty (0, 0)) → w1.heap[g]? = some (Obj.cells c ty (0, 0)) := fun g c ty hne hc => by
    refine (hgr.block g (Array.getElem?_eq_some_iff.1 hc).1 (fun e => ?_)).trans hc
    obtain ⟨_, c', h2⟩ := hbv g e.symm
    exact cells_ne hc h2 hne rfl
  have hb1 := key _ _ _ (by decide) hb
  have h39 : ∀ g c, B ≤ g → w.heap[g]? = some (Obj.cells c 39 (0, 0)) → (w1.setCell ⟨pb, 2, none⟩ bv').heap[g]? = some (Obj.cells c 39 (0, 0)) := fun g c _ hc =>
    (heap_other (cells_ne hc hb (by decide)) _ _).trans (key _ _ _ (by decide) hc)
  refine ⟨lv, ⟨⟨bv', L, set_of hb1 2 _, hl.keep h39, own_keep hby fun g c hg hc => (heap_other (cells_ne hc hb1 (by decide)) _ _).trans hc⟩, hge⟩, ?_, fun hu => hu.keep fun g c hg hc => ⟨hg, h39 g c hg.1 hc⟩⟩
  exact ((Only.of_grown (S := fun i => bv.ownBlock = some i) hgr (fun k hk => hk)).below (fun k hk => (hbv k hk).1) hB).setCell hge _
theorem u8s_str (a : Bz) (s : ByteArray) : u8s a ++ Lib.strCells s = u8s (a ++ s.data.toList) := by
  rw [Lib.strCells_eq]; simp [u8s, Lib.byteCells]
/-- What a put has in hand, once its kind is told. -/
theorem put_pack {w : World} {B pb : Nat} {lv : Value} {p : PS} (h : PAt w B pb lv p) (hB : B ≤ w.heap.size) (k : Nat) (s : ByteArray) :
    ∃ bv w1, w.cell? ⟨pb, 1, none⟩ = some (.int .i64 p.kind) ∧ w.frozen? ⟨pb, 1, none⟩ = false ∧ w.setCell ⟨pb, 1, none⟩ (.int .i64 k) = w1 ∧ w.cell? ⟨pb, 2, none⟩ = some bv ∧ w1.ownsRow B 5 1 bv p.bytes.length (u8s p.bytes) ∧ B ≤ w1.heap.size ∧
      ∀ v' w2, w2.ownsRow B 5 1 v' (p.bytes.length + s.size) (u8s p.bytes ++ Lib.strCells s) → w1.grownBy w2 bv.ownBlock → (∃ a c, v' = .slice a (p.bytes.length + s.size) c) ∧ w2.cell? ⟨pb, 2, none⟩ = some bv ∧ w2.frozen? ⟨pb, 2, none⟩ = false ∧
        Gath w (w2.setCell ⟨pb, 2, none⟩ v') B pb lv ⟨p.list, k, p.bytes ++ s.data.toList, p.quotes⟩ := by
  obtain ⟨bv, L, hb, hl, hby⟩ := h.ex
  have hge := h.ge
  obtain ⟨w1, hw1⟩ : ∃ w1, w.setCell ⟨pb, 1, none⟩ (.int .i64 k) = w1 := ⟨_, rfl⟩
  have hs1 : w1.heap.size = w.heap.size := by rw [← hw1]; simp
  have hown1 : w1.ownsRow B 5 1 bv p.bytes.length (u8s p.bytes) := by rw [← hw1]; exact own_keep hby fun g c hg hc => (heap_other (cells_ne hc hb (by decide)) _ _).trans hc
  have hb1 : w1.heap[pb]? = some (.cells [lv, .int .i64 k, bv, .bool p.quotes].toArray 68 (0, 0)) := by rw [← hw1]; exact set_of hb 1 _
  have hl1 : PRow w1 B lv p.list L := by rw [← hw1]; exact hl.keep fun g c hg hc => (heap_other (cells_ne hc hb (by decide)) _ _).trans hc
  have hbel1 : Below B w w1 := by rw [← hw1]; exact (Below.refl _ _).setCell hge _
  have hsep1 : ∀ {u : Value} {m : List Prt}, Wd w (Sep B lv) u m → Wd w1 (Sep B lv) u m := fun hu => by rw [← hw1]; exact hu.keep fun g c hg hc => ⟨hg, (heap_other (cells_ne hc hb (by decide)) _ _).trans hc⟩
  have hbv : ∀ g, bv.ownBlock = some g → B ≤ g ∧ ∃ c, w1.heap[g]? = some (.cells c 5 (0, 0)) := fun g hg => by
    rcases own_form hown1 with ⟨e1, _⟩ | ⟨g', c', e1, _, h3, cur', e2⟩
    · rw [e1] at hg; cases hg
    · rw [e1] at hg; cases hg; exact ⟨h3, cur', e2⟩
  refine ⟨bv, w1, cell_of hb 1, free_of hb 1, hw1, cell_of hb 2, hown1, by omega, fun v' w2 ho hg => ?_⟩
  have hp2 : w2.heap[pb]? = some (.cells [lv, .int .i64 k, bv, .bool p.quotes].toArray 68 (0, 0)) := (hg.block pb (blk_lt hb1) (fun e => by
    obtain ⟨_, c, h2⟩ := hbv pb e.symm
    exact cells_ne hb1 h2 (by decide) rfl)).trans hb1
  refine ⟨?_, cell_of hp2 2, free_of hp2 2, ?_⟩
  · rcases own_form ho with ⟨e1, e2⟩ | ⟨g', c', e1, _⟩
    · rw [e2]; exact ⟨none, 0, e1⟩
    · exact ⟨_, _, e1⟩
  · rw [u8s_str] at ho
    have hlen : p.bytes.length + s.size = (p.bytes ++ s.data.toList).length := by rw [List.length_append, dl]
    rw [hlen] at ho
    obtain ⟨lv', g1, g2, g3⟩ := PAt.bytes (p := ⟨p.list, k, p.bytes, p.quotes⟩) hb1 hl1 hge ho hg hbv (by omega)
    exact ⟨lv', g1, hbel1.trans g2, fun hu => g3 (hsep1 hu)⟩
def PutP (w : World) (B pb : Nat) (lv : Value) (p : PS) (e : Ending) (w' : World) : Prop := e = .returned (.tuple #[]) ∧ Gath w w' B pb lv p
set_option maxRecDepth 100000 in
set_option maxHeartbeats 4000000 in
theorem put_any {w : World} {B pb : Nat} {lv : Value} {p : PS} (h : PAt w B pb lv p) (hz : p.sz ≤ 100000) (hB : B ≤ w.heap.size) (k : Nat) (s : ByteArray) (hs : s.size ≤ 100000) :
    Calls Try.prog 50 #[.pointer (some ⟨pb, 0, none⟩), .int .i64 k, .string s] w (PutP w B pb lv (p.put k s.data.toList)) := by
  obtain ⟨Q, hQ⟩ : ∃ Q, PutP w B pb lv (p.put k s.data.toList) = Q := ⟨_, rfl⟩
  rw [hQ]
  have HQ := Lib.hid hQ
  obtain ⟨i0, hi, hz0, hz1, hz2⟩ := info_parts info5
  by_cases h0 : s.data.toList = []
  · have hE : Hid (PutP w B pb lv (p.put k s.data.toList) (.returned (.tuple #[])) w) := by
      rw [h0, put_nil]; exact ⟨rfl, Gath.refl h⟩
    have h1 : s.toList = [] := by rw [Lib.toList_data]; exact h0
    have h2 : s.toList.isEmpty = true := by rw [h1]; rfl
    clear hQ h h0
    go_enter Try.func50, Try.ntmps50
    go_wp2_with fail
    go_end0
    rw [← HQ.out]; exact hE.out
  · have h2 : s.toList.isEmpty = false := isE_ne h0
    by_cases hk : k = p.kind
    · subst hk
      have hkd : ((p.kind : Int) != (p.kind : Int)) = false := by simp
      have hpl : p.bytes.length ≤ 100000 := by unfold PS.sz at hz; omega
      have HP : Hid (p.put p.kind s.data.toList = ⟨p.list, p.kind, p.bytes ++ s.data.toList, p.quotes⟩) := by
        rw [Hid]; unfold PS.put; rw [if_neg h0, if_pos rfl]
      obtain ⟨bv, w1, q1, f1, hw1, q2, hown1, hB1, hgo⟩ := put_pack h hB p.kind s
      have HW1 := Lib.hid hw1
      have HGO := Lib.hid hgo
      clear hQ h h0 hw1 hgo
      go_enter Try.func50, Try.ntmps50
      go_wp2_with (at_builtin; rw [HW1.out]; refine Lib.wpList_append_own_string _ rfl _ _ 42 9 rfl B 5 i0 Try.underlying42 Try.underlying9 hi hz0 hz1 hz2 _ _ _ rfl hown1 s rfl (by unfold maxLen; omega) (by omega) (by omega) ?_; intro v' w2 hown' hgrow _; obtain ⟨⟨va, vc, rfl⟩, p2, p2f, hG⟩ := HGO.out _ _ hown' hgrow; have HG := Lib.hid hG; clear hown' hgrow hG)
      go_end0
      rw [← HQ.out, HP.out]
      exact ⟨rfl, HG.out⟩
    · have hkd : ((k : Int) != (p.kind : Int)) = true := by simp; exact fun e => hk (by omega)
      have HP : Hid (p.put k s.data.toList = ⟨p.flush.list, k, p.flush.bytes ++ s.data.toList, p.flush.quotes⟩) := by
        rw [Hid]; unfold PS.put; rw [if_neg h0, if_neg hk]; rfl
      have HK := Lib.hid hk
      obtain ⟨bv0, L0, hb, _⟩ := h.ex
      have q1' : w.cell? ⟨pb, 1, none⟩ = some (.int .i64 p.kind) := cell_of hb 1
      have HF := Lib.hid (flush_any h hz hB)
      have hfl : p.flush.bytes.length ≤ 100000 := Nat.zero_le _
      obtain ⟨fb, hfb⟩ : ∃ fb, p.flush.bytes.length = fb := ⟨_, rfl⟩
      rw [hfb] at hfl
      have HFB := Lib.hid hfb
      clear hQ h h0 hb hk hfb
      go_enter Try.func50, Try.ntmps50
      go_wp2_with (first
        | (go_at_call 51; refine HF.out.mono ?_; rintro e w3 ⟨rfl, hG3⟩; obtain ⟨lv3, hP3, hb3, hs3⟩ := id hG3; have HG3 := Lib.hid hG3; have hB3 : B ≤ w3.heap.size := Nat.le_trans hB hb3.size; obtain ⟨bv, w1, q1, f1, hw1, q2, hown1, hB1, hgo⟩ := put_pack hP3 hB3 k s; rw [HFB.out] at hown1 hgo; have HW1 := Lib.hid hw1; have HGO := Lib.hid hgo; have HS3 := Lib.hid (And.intro hb3 @hs3); clear hG3 hP3 hb3 hs3 hw1 hgo; simp only [])
        | (at_builtin; rw [HW1.out]; refine Lib.wpList_append_own_string _ rfl _ _ 42 9 rfl B 5 i0 Try.underlying42 Try.underlying9 hi hz0 hz1 hz2 _ _ _ rfl hown1 s rfl (by unfold maxLen; omega) (by omega) (by omega) ?_; intro v' w2 hown' hgrow _; obtain ⟨⟨va, vc, rfl⟩, p2, p2f, hG⟩ := HGO.out _ _ hown' hgrow; have HG := Lib.hid hG; clear hown' hgrow hG))
      go_end0
      rw [← HQ.out, HP.out]
      obtain ⟨lv', g1, g2, g3⟩ := HG.out
      exact ⟨rfl, lv', g1, HS3.out.1.trans g2, fun hu => g3 (HS3.out.2 hu)⟩
end Go.Proofs.Ytafbheplaheohaa
