import Derived.Test.YtafbheplaheohaaB
import Derived.Test.YtafbheplaheohaaMC
import Derived.Test.YtafbheplaheohaaQF
namespace Go.Proofs.Ytafbheplaheohaa
open Go.RowKit
set_option linter.unusedVariables false

theorem info39 : (Try.prog.info? 39).map (fun i => (i.zero, i.size, i.bytes)) = some (some (.agg #[.int .i64 0, .string ⟨#[]⟩, .string ⟨#[]⟩, .string ⟨#[]⟩, .slice none 0 0, .bool false]), 6, 88) := by kernel_rfl
theorem info5 : (Try.prog.info? 5).map (fun i => (i.zero, i.size, i.bytes)) = some (some (.int .u8 0), 1, 1) := by kernel_rfl
/-- append to an own row, and where the row lies behind it. -/
theorem run_append_at {P : Program} (w : World) (base : Nat) (t ty e : TypeId) (i : TypeInfo) (z : Value) (size bytes : Nat) (ht : P.underlying t = some (.slice e)) (hi : P.info? e = some i) (hz : i.zero = some z)
    (hsize : i.size = size) (hby : i.bytes = bytes) (hzs : z.cells.size = size) (hsz : 0 < size)
    (v : Value) (n : Nat) (xs : List Value) (hown : w.ownsRow base e size v n xs)
    (a : Addr) (m c : Nat) (news : List Value) (hl : news.length = m * size) (hnews : ∀ j u, news[j]? = some u → w.cell? (a.add j) = some u) (h1 : ∀ u ∈ news, u.oneCell' = true)
    (h63 : n + m ≤ maxLen) (hbytes : (n + m) * bytes ≤ 140737488355328) (hbase : base ≤ w.heap.size) (hm : 0 < m) :
    ∃ v' w', (Builtin.append_ #[t, t] ty #[v, .slice (some a) m c]).run P w = .ok v' w' ∧ w'.ownsRow base e size v' (n + m) (xs ++ news) ∧ w.grownBy w' v.ownBlock ∧
      (v'.ownBlock = v.ownBlock ∨ v'.ownBlock = some w.heap.size) := by
  obtain ⟨v', w', hr, h2, h3, h4⟩ := run_append_own (P := P) w base t ty e i z size bytes ht hi hz hsize hby hzs hsz v n xs hown a m c news hl hnews h1 h63 hbytes hbase
  refine ⟨v', w', hr, h2, h3, ?_⟩
  subst hsize
  unfold maxLen at h63
  rcases hown.2 with ⟨rfl, rfl⟩ | ⟨g, cap, cur, rfl, hbg, hg, hnc, hcm, hcs, htake⟩
  · have hr2 := run_append_nil (P := P) w t ty e i z ht hi hz a m c news hl hnews (by omega) (by omega) (by rw [hby]; rw [Nat.zero_add] at hbytes; omega)
    rw [hr2] at hr
    injection hr with e _
    right
    rw [← e]; rfl
  · by_cases hroom : n + m ≤ cap
    · have hfit : n * i.size + news.length ≤ cur.size := by
        rw [hl, hcs, ← Nat.add_mul]; exact Nat.mul_le_mul_right _ hroom
      have hr2 := run_append_room (P := P) w t ty e i ht hi g n cap cur hg a m c news hl hnews h1 hroom hfit
      rw [hr2] at hr
      injection hr with e _
      left
      rw [← e]; rfl
    · have holds : ∀ j x, xs[j]? = some x → w.cell? ((⟨g, 0, none⟩ : Addr).add j) = some x := hown.cells (g := g) rfl
      have hr2 := run_append_grow (P := P) w t ty e i z ht hi hz ⟨g, 0, none⟩ n cap xs hown.1 holds a m c news hl hnews (by omega) (by omega) (growslice_fits (by omega) (by rw [hby]; exact hbytes))
      rw [hr2] at hr
      injection hr with e _
      right
      rw [← e]; rfl
def zero6 : List Value := [.int .i64 0, .string ⟨#[]⟩, .string ⟨#[]⟩, .string ⟨#[]⟩, .slice none 0 0, .bool false]
def put6 (w : World) (g o : Nat) (p : Pt) : World :=
  (((((w.setCell ⟨g, o, none⟩ (.int .i64 p.k)).setCell ⟨g, o + 1, none⟩ (.string p.t)).setCell ⟨g, o + 2, none⟩ (.string p.n)).setCell ⟨g, o + 3, none⟩ (.string p.o)).setCell ⟨g, o + 4, none⟩ p.wv).setCell ⟨g, o + 5, none⟩ (.bool p.q)
theorem heap_set {w : World} {g : Nat} {cur : Array Value} {ty : TypeId} {fz : Nat × Nat} (h : w.heap[g]? = some (.cells cur ty fz)) (i : Nat) (v : Value) : (w.setCell ⟨g, i, none⟩ v).heap[g]? = some (.cells (cur.setIfInBounds i v) ty fz) := by
  have h1 : (w.heap.modify g fun | .cells c elem frozen => Obj.cells (if (none : Option Nat).isSome then c else c.setIfInBounds i v) elem frozen | o => o)[g]? = some (.cells (cur.setIfInBounds i v) ty fz) := by
    rw [Array.getElem?_modify, if_pos rfl, h]; rfl
  exact h1
theorem heap_other {w : World} {g k : Nat} (hne : k ≠ g) (i : Nat) (v : Value) : (w.setCell ⟨g, i, none⟩ v).heap[k]? = w.heap[k]? := Below.heap_setCell _ _ _ _ hne
theorem put6_at {w : World} {g : Nat} {cur : Array Value} {ty : TypeId} {fz : Nat × Nat} (h : w.heap[g]? = some (.cells cur ty fz)) (o : Nat) (p : Pt) :
    (put6 w g o p).heap[g]? = some (.cells ((((((cur.setIfInBounds o (.int .i64 p.k)).setIfInBounds (o + 1) (.string p.t)).setIfInBounds (o + 2) (.string p.n)).setIfInBounds (o + 3) (.string p.o)).setIfInBounds (o + 4) p.wv).setIfInBounds (o + 5) (.bool p.q)) ty fz) :=
  heap_set (heap_set (heap_set (heap_set (heap_set (heap_set h _ _) _ _) _ _) _ _) _ _) _ _
theorem put6_other {w : World} {g k : Nat} (hne : k ≠ g) (o : Nat) (p : Pt) : (put6 w g o p).heap[k]? = w.heap[k]? := by
  unfold put6
  rw [heap_other hne, heap_other hne, heap_other hne, heap_other hne, heap_other hne, heap_other hne]
theorem put6_below {w0 w : World} {B g : Nat} (h : Below B w0 w) (hg : B ≤ g) (o : Nat) (p : Pt) : Below B w0 (put6 w g o p) :=
  (((((h.setCell (p := ⟨g, _, none⟩) hg _).setCell (p := ⟨g, _, none⟩) hg _).setCell (p := ⟨g, _, none⟩) hg _).setCell (p := ⟨g, _, none⟩) hg _).setCell (p := ⟨g, _, none⟩) hg _).setCell (p := ⟨g, _, none⟩) hg _
theorem set_comm {w : World} {a b : Addr} (h : a.block ≠ b.block) (u v : Value) : (w.setCell a u).setCell b v = (w.setCell b v).setCell a u := by
  unfold World.setCell
  congr 1
  refine Array.ext_getElem? fun i => ?_
  simp only [Array.getElem?_modify]
  by_cases h1 : b.block = i
  · have h2 : ¬ a.block = i := fun e => h (e.trans h1.symm)
    rw [if_pos h1, if_neg h2, if_neg h2, if_pos h1]
  · by_cases h2 : a.block = i
    · rw [if_neg h1, if_pos h2, if_pos h2, if_neg h1]
    · rw [if_neg h1, if_neg h2, if_neg h2, if_neg h1]
theorem put6_comm {w : World} {g o b j : Nat} (h : b ≠ g) (p : Pt) (v : Value) : put6 (w.setCell ⟨b, j, none⟩ v) g o p = (put6 w g o p).setCell ⟨b, j, none⟩ v := by
  have k : ∀ (w : World) (i : Nat) (u : Value), (w.setCell ⟨b, j, none⟩ v).setCell ⟨g, i, none⟩ u = (w.setCell ⟨g, i, none⟩ u).setCell ⟨b, j, none⟩ v := fun w i u => set_comm (by exact h) v u
  unfold put6
  rw [k, k, k, k, k, k]
theorem take6 {cur : Array Value} {n : Nat} {xs : List Value} (hx : cur.toList.take (n * 6) = xs) (hs : (n + 1) * 6 ≤ cur.size) (c0 c1 c2 c3 c4 c5 : Value) :
    ((((((cur.setIfInBounds (n * 6) c0).setIfInBounds (n * 6 + 1) c1).setIfInBounds (n * 6 + 2) c2).setIfInBounds (n * 6 + 3) c3).setIfInBounds (n * 6 + 4) c4).setIfInBounds (n * 6 + 5) c5).toList.take ((n + 1) * 6) = xs ++ [c0, c1, c2, c3, c4, c5] := by
  have hl : xs.length = n * 6 := by rw [← hx]; simp; omega
  refine List.ext_getElem? fun i => ?_
  rw [List.getElem?_take, Array.getElem?_toList]
  by_cases h1 : i < n * 6
  · rw [if_pos (by omega), List.getElem?_append_left (by omega), ← hx, List.getElem?_take, if_pos h1, Array.getElem?_toList]
    simp only [Array.getElem?_setIfInBounds]
    rw [if_neg (by omega), if_neg (by omega), if_neg (by omega), if_neg (by omega), if_neg (by omega), if_neg (by omega)]
  · obtain ⟨q, rfl⟩ : ∃ q, i = n * 6 + q := ⟨i - n * 6, by omega⟩
    rw [List.getElem?_append_right (by omega), hl, Nat.add_sub_cancel_left]
    by_cases h2 : q < 6
    · rw [if_pos (by omega)]
      simp only [Array.getElem?_setIfInBounds, Array.size_setIfInBounds]
      have hq : q = 0 ∨ q = 1 ∨ q = 2 ∨ q = 3 ∨ q = 4 ∨ q = 5 := by omega
      rcases hq with rfl | rfl | rfl | rfl | rfl | rfl <;> simp <;> omega
    · rw [if_neg (by omega), List.getElem?_eq_none (by simp; omega)]
/-- Not the row v itself. -/
def Sep (B : Nat) (v : Value) (k : Nat) : Prop := B ≤ k ∧ v.ownBlock ≠ some k
theorem take_le {α : Type} {l : List α} {a b : Nat} {xs : List α} (h : l.take b = xs) (hab : a ≤ b) : l.take a = xs.take a := by rw [← h, List.take_take, Nat.min_eq_left hab]
/-- A part more, laid in the place that append made. -/
theorem PRow.place {w : World} {B : Nat} {v : Value} {l : List Prt} {L : List Pt} (h : PRow w B v l L) (hB : B ≤ w.heap.size) (hl : L.length ≤ 100000) {p : Pt} {x : Prt} (hx : p.is x) (hw : Wd w (Sep B v) p.wv x.word) :
    ∃ g cap wC cur, (Builtin.append_ #[32, 32] 32 #[v, .slice (some ⟨w.heap.size, 0, none⟩) 1 1]).run Try.prog (w.alloc (.cells zero6.toArray 39)) = .ok (.slice (some ⟨g, 0, none⟩) (L.length + 1) cap) wC ∧
      wC.heap[g]? = some (.cells cur 39 (0, 0)) ∧ (L.length + 1) * 6 ≤ cur.size ∧ B ≤ g ∧ Below B w wC ∧ (∀ k, k < w.heap.size → v.ownBlock ≠ some k → wC.heap[k]? = w.heap[k]?) ∧
      (∀ {u : Value} {m : List Prt}, Wd w (Sep B v) u m → Wd (put6 wC g (L.length * 6) p) (Sep B (.slice (some ⟨g, 0, none⟩) (L.length + 1) cap)) u m) ∧
      PRow (put6 wC g (L.length * 6) p) B (.slice (some ⟨g, 0, none⟩) (L.length + 1) cap) (l ++ [x]) (L ++ [p]) := by
  obtain ⟨i0, hi, hz0, hz1, hz2⟩ := info_parts info39
  have hbel : Below w.heap.size w (w.alloc (.cells zero6.toArray 39)) := (Below.refl _ _).alloc (Nat.le_refl _) _
  have hs1 : (w.alloc (.cells zero6.toArray 39)).heap.size = w.heap.size + 1 := by simp
  have hown : (w.alloc (.cells zero6.toArray 39)).ownsRow B 39 6 v L.length (pcs L) := own_keep h.own fun g c hg h1 => (hbel.block g (h.own.lt g hg).2).trans h1
  have u32 : Try.prog.underlying 32 = some (.slice 39) := by kernel_rfl
  obtain ⟨v', wC, h2, h3, h4, h5⟩ := run_append_at (P := Try.prog) (w.alloc (.cells zero6.toArray 39)) B 32 32 39 i0 _ 6 88 u32 hi hz0 hz1 hz2 rfl (by decide) v L.length (pcs L) hown ⟨w.heap.size, 0, none⟩ 1 1 zero6 rfl
    (fun j u hj => by
      rw [addn, Nat.zero_add]
      simp only [World.cell?, heap_alloc_new w]
      simpa using hj) (by decide) (by unfold maxLen; omega) (by omega) (by omega) (by decide)
  have hbC : Below B w wC := (hbel.mono hB).trans ((Only.of_grown (S := fun i => v.ownBlock = some i) h4 (fun k hk => hk)).below (fun k hk => (hown.lt k hk).1) (by omega))
  have hkC : ∀ k, k < w.heap.size → v.ownBlock ≠ some k → wC.heap[k]? = w.heap[k]? := fun k hk hne => (h4.block k (by omega) (fun e => hne e.symm)).trans (hbel.block k hk)
  rcases h3.2 with ⟨_, h0⟩ | ⟨g, cap, cur, rfl, g1, g2, g3, g4, g5, g6⟩
  · omega
  have hsz : (L.length + 1) * 6 ≤ cur.size := by rw [g5]; exact Nat.mul_le_mul_right _ g3
  have hword : ∀ {u : Value} {m : List Prt}, Wd w (fun k => B ≤ k ∧ v.ownBlock ≠ some k) u m → Wd (put6 wC g (L.length * 6) p) (fun k => B ≤ k ∧ (Value.slice (some ⟨g, 0, none⟩) (L.length + 1) cap).ownBlock ≠ some k) u m := fun hu => by
    refine hu.keep fun k c hk hc => ?_
    have hkl := (Array.getElem?_eq_some_iff.1 hc).1
    have hne : k ≠ g := by
      rintro rfl
      rcases h5 with e | e
      · exact hk.2 (e.symm.trans rfl)
      · simp [Value.ownBlock] at e; omega
    refine ⟨⟨hk.1, fun e => ?_⟩, ?_⟩
    · simp [Value.ownBlock] at e; exact hne e.symm
    · rw [put6_other hne, hkC k hkl hk.2]; exact hc
  refine ⟨g, cap, wC, cur, h2, g2, hsz, g1, hbC, hkC, hword, ⟨?_, .inr ⟨g, cap, _, by rw [List.length_append]; rfl, g1, put6_at g2 _ _, by rw [List.length_append]; exact g3, g4, ?_, ?_⟩⟩, ?_, fun i h1 h2 => ?_, fun i h1 h2 => ?_⟩
  · rw [pcs_len]
  · simp only [Array.size_setIfInBounds]; exact g5
  · rw [List.length_append, List.length_singleton, pcs_app]
    have ht := take_le (a := L.length * 6) g6 (by omega)
    rw [List.take_append_of_le_length (by rw [pcs_len]; exact Nat.le_refl _), List.take_of_length_le (l := pcs L) (by rw [pcs_len]; exact Nat.le_refl _)] at ht
    exact take6 ht hsz _ _ _ _ _ _
  · rw [List.length_append, List.length_append, h.len]; rfl
  · by_cases hil : i < L.length
    · rw [List.getElem_append_left hil, List.getElem_append_left (by rw [← h.len]; exact hil)]
      exact h.is i hil _
    · have : i = L.length := by rw [List.length_append, List.length_singleton] at h1; omega
      subst this
      rw [List.getElem_append_right (Nat.le_refl _), List.getElem_append_right (by rw [h.len]; exact Nat.le_refl _)]
      simpa [h.len] using hx
  · by_cases hil : i < L.length
    · rw [List.getElem_append_left hil, List.getElem_append_left (by rw [← h.len]; exact hil)]
      exact hword (h.word i hil _)
    · have : i = L.length := by rw [List.length_append, List.length_singleton] at h1; omega
      subst this
      rw [List.getElem_append_right (Nat.le_refl _), List.getElem_append_right (by rw [h.len]; exact Nat.le_refl _)]
      simpa [h.len] using hword hw
def u8s (l : Bz) : List Value := l.map fun c => .int .u8 c.toNat
theorem u8s_len (l : Bz) : (u8s l).length = l.length := List.length_map ..
/-- The parts of a word that are being gathered, at block pb. -/
structure PAt (w : World) (B pb : Nat) (lv : Value) (p : PS) : Prop where
  ex : ∃ bv L, w.heap[pb]? = some (.cells [lv, .int .i64 p.kind, bv, .bool p.quotes].toArray 68 (0, 0)) ∧ PRow w B lv p.list L ∧ w.ownsRow B 5 1 bv p.bytes.length (u8s p.bytes)
  ge : B ≤ pb
theorem cells_ne {w : World} {a b : Nat} {c d : Array Value} {t u : TypeId} {f f' : Nat × Nat} (h1 : w.heap[a]? = some (.cells c t f)) (h2 : w.heap[b]? = some (.cells d u f')) (hne : t ≠ u) : a ≠ b := by
  rintro rfl
  rw [h1] at h2
  injection h2 with h2
  injection h2 with _ h2 _
  exact hne h2
/-- A change below the base, or of a block of another kind, leaves them. -/
theorem PAt.keep {w w' : World} {B pb : Nat} {lv : Value} {p : PS} (h : PAt w B pb lv p) (hk : ∀ (g : Nat) (c : Array Value) (ty : TypeId), B ≤ g → (ty = 68 ∨ ty = 39 ∨ ty = 5) → w.heap[g]? = some (Obj.cells c ty (0, 0)) → w'.heap[g]? = some (Obj.cells c ty (0, 0))) : PAt w' B pb lv p := by
  obtain ⟨bv, L, h1, h2, h3⟩ := h.ex
  exact ⟨⟨bv, L, hk _ _ _ h.ge (.inl rfl) h1, h2.keep fun g c hg hc => hk g c 39 hg (.inr (.inl rfl)) hc, own_keep h3 fun g c hg hc => hk g c 5 (h3.lt g hg).1 (.inr (.inr rfl)) hc⟩, h.ge⟩
end Go.Proofs.Ytafbheplaheohaa
