import Derived.Test.YtjagnihkpgbjeaaDoorHB
namespace Go.Proofs.YtjagnihkpgbjeaaDoor
open Go.RowKit Go.Maps Go.ChangeMaps
set_option linter.unusedVariables false
theorem IMap.of_put {w : World} {N nn b : Nat} {D : DataW Unit} {st : Bs → Int} {k : Bs} {a : Int} (h : w.ownsMap Tryd.prog 9 (plainElem (H := Unit) Tryd.prog 3) b (nn + 1) (D.put (.string k) (.lit (.int .i64 a)))) (hn : nn ≤ N) (hD : IsMap D)
    (hg : ∀ x : Bs, D.atKey (.string x) (.lit (.int .i64 0)) = .lit (.int .i64 (st x))) : IMap w b (N + 1) (setS st k a) := by
  refine ⟨nn + 1, _, by omega, h, fun x => ?_⟩
  unfold setS
  by_cases hx : x = k
  · subst hx
    rw [if_pos rfl]
    exact atKey_put_same hD (keyLit _) _ _
  · rw [if_neg hx]
    have hne : (Lit.string x) ≠ .string k := fun e => hx (by injection e)
    exact (atKey_put_other hne _ _).trans (hg x)
theorem own_onlyS {w w' : World} {B e sz n : Nat} {v : Value} {xs : List Value} {F : Nat → Prop} (h : w.ownsRow B e sz v n xs) (ho : Only F w w') (hF : ∀ g, v.ownBlock = some g → ¬ F g) : w'.ownsRow B e sz v n xs := by
  refine ⟨h.1, ?_⟩
  rcases h.2 with hn | ⟨g, cap, cur, rfl, h1, h2, r⟩
  · exact .inl hn
  · exact .inr ⟨g, cap, cur, rfl, h1, (ho.block g (Array.getElem?_eq_some_iff.1 h2).1 (hF g rfl)).trans h2, r⟩
section
variable {wI : World} {f wb mb : Nat} {am ar : Option Addr} {nm cm nr cr : Nat}
theorem WA.lts {w : World} {ov : Value} {s : GS} (h : WA wI w f wb mb am nm cm ar nr cr ov s) : wb < w.heap.size ∧ mb < w.heap.size ∧ ∀ g, ov.ownBlock = some g → g < w.heap.size :=
  ⟨(Array.getElem?_eq_some_iff.1 h.blk).1, h.map.lt, fun g hg => (h.ord.lt g hg).2⟩
/-- A target is opened: its state, and the two counts. -/
theorem WA.opened {w w1 : World} {ov : Value} {s : GS} (h : WA wI w f wb mb am nm cm ar nr cr ov s) (t : Bs) {nn : Nat} {D : DataW Unit} (hnn : nn ≤ 2 * s.reached - s.nested) (hD : IsMap D)
    (hg : ∀ x : Bs, D.atKey (.string x) (.lit (.int .i64 0)) = .lit (.int .i64 (s.st x))) (h1 : w1.ownsMap Tryd.prog 9 (plainElem (H := Unit) Tryd.prog 3) mb (nn + 1) (D.put (.string t) (.lit (.int .i64 1)))) (g1 : w.grownBy w1 (some mb)) (hr : s.reached < 1000) :
    w1.heap[wb]? = some (.cells (wkC am nm cm ar nr cr f mb s ov).toArray 100 (0, 0)) ∧
    WA wI ((w1.setCell ⟨wb, 5, none⟩ (.int .i64 ((s.reached : Int) + 1))).setCell ⟨wb, 6, none⟩ (.int .i64 ((s.nested : Int) + 1))) f wb mb am nm cm ar nr cr ov (openS s t) ∧ Rw wb mb w ((w1.setCell ⟨wb, 5, none⟩ (.int .i64 ((s.reached : Int) + 1))).setCell ⟨wb, 6, none⟩ (.int .i64 ((s.nested : Int) + 1))) ov ov := by
  have hne := h.ne
  have hls := h.lts
  have hb1 : w1.heap[wb]? = some (.cells (wkC am nm cm ar nr cr f mb s ov).toArray 100 (0, 0)) := (g1.block wb hls.1 (by simpa using hne.symm)).trans h.blk
  have ho1 : Only (SS wb mb ov) w w1 := Only.of_grown g1 (fun k e => by cases e; exact .inr (.inl rfl))
  have ho2 : Only (SS wb mb ov) w ((w1.setCell ⟨wb, 5, none⟩ (.int .i64 ((s.reached : Int) + 1))).setCell ⟨wb, 6, none⟩ (.int .i64 ((s.nested : Int) + 1))) := (ho1.set (.inl (.inl rfl)) 5 _).set (.inl (.inl rfl)) 6 _
  have how : Only (fun j => j = wb) w1 ((w1.setCell ⟨wb, 5, none⟩ (.int .i64 ((s.reached : Int) + 1))).setCell ⟨wb, 6, none⟩ (.int .i64 ((s.nested : Int) + 1))) := ((Only.refl (fun j => j = wb) w1).set (.inl rfl) 5 _).set (.inl rfl) 6 _
  refine ⟨hb1, ⟨?_, ?_, ?_, h.ge, h.sep, ?_, ?_, ?_, ?_⟩, ⟨ho2, fun g hg => .inl hg⟩⟩
  · have := set_of (set_of hb1 5 (.int .i64 ((s.reached : Int) + 1))) 6 (.int .i64 ((s.nested : Int) + 1))
    exact this
  · have hm := (IMap.of_put h1 hnn hD hg).blk (w' := (w1.setCell ⟨wb, 5, none⟩ (.int .i64 ((s.reached : Int) + 1))).setCell ⟨wb, 6, none⟩ (.int .i64 ((s.nested : Int) + 1))) (how.block mb h1.lt hne)
    obtain ⟨a, b, c, d, e⟩ := hm
    exact ⟨a, b, by have := h.nr; show a ≤ 2 * (s.reached + 1) - (s.nested + 1); omega, d, e⟩
  · refine own_onlyS (F := fun j => j = wb ∨ j = mb) h.ord ((Only.of_grown (S := fun j => j = wb ∨ j = mb) g1 (fun k e => by cases e; exact .inr rfl)).trans how (fun _ h => h) (fun _ _ h => .inl h)) (fun g hg e => ?_)
    rcases e with e | e
    · exact (h.sep g hg).1 e
    · exact (h.sep g hg).2 e
  · exact h.old.trans (ho2.below (fun k hk => by
      rcases hk with e | e | e
      · rw [e]; exact h.ge.1
      · rw [e]; exact h.ge.2
      · exact (h.ord.lt k e).1) h.old.size)
  · have := h.nr; show s.nested + 1 ≤ s.reached + 1; omega
  · show s.reached + 1 ≤ 1000; omega
  · have := h.ol; show s.order.length + (s.nested + 1) ≤ s.reached + 1; omega
/-- A target is closed: the count of those that are open, its state, the order. -/
theorem WA.closed {w4 w6 w7 : World} {ov v' : Value} {s : GS} {q : Nat} (h : WA wI w4 f wb mb am nm cm ar nr cr ov s) (hq : s.nested = q + 1) (t : Bs) {nn : Nat} {D : DataW Unit} (hnn : nn ≤ 2 * s.reached - s.nested) (hD : IsMap D)
    (hg : ∀ x : Bs, D.atKey (.string x) (.lit (.int .i64 0)) = .lit (.int .i64 (s.st x))) (h1 : w6.ownsMap Tryd.prog 9 (plainElem (H := Unit) Tryd.prog 3) mb (nn + 1) (D.put (.string t) (.lit (.int .i64 2)))) (g1 : (w4.setCell ⟨wb, 6, none⟩ (.int .i64 q)).grownBy w6 (some mb))
    (hown : w7.ownsRow wI.heap.size 9 1 v' (s.order ++ [t]).length ((s.order ++ [t]).map encStr)) (ho7 : Only (fun j => ov.ownBlock = some j) w6 w7) (hwh : ∀ g, v'.ownBlock = some g → ov.ownBlock = some g ∨ w6.heap.size ≤ g) :
    w7.heap[wb]? = some (.cells [.slice am nm cm, .slice ar nr cr, .pointer (some ⟨f, 0, none⟩), .string ⟨#[47]⟩, .map (some mb), .int .i64 s.reached, .int .i64 q, ov].toArray 100 (0, 0)) ∧
    WA wI (w7.setCell ⟨wb, 7, none⟩ v') f wb mb am nm cm ar nr cr v' (closeS s t) ∧ Rw wb mb w4 (w7.setCell ⟨wb, 7, none⟩ v') ov v' := by
  have hne := h.ne
  have hls := h.lts
  have hb5 : (w4.setCell ⟨wb, 6, none⟩ (.int .i64 q)).heap[wb]? = some (.cells [.slice am nm cm, .slice ar nr cr, .pointer (some ⟨f, 0, none⟩), .string ⟨#[47]⟩, .map (some mb), .int .i64 s.reached, .int .i64 q, ov].toArray 100 (0, 0)) := set_of h.blk 6 _
  have ho5 : Only (SS wb mb ov) w4 (w4.setCell ⟨wb, 6, none⟩ (.int .i64 q)) := (Only.refl (SS wb mb ov) w4).set (.inl (.inl rfl)) 6 _
  have ho6 : Only (SS wb mb ov) w4 w6 := ho5.trans (Only.of_grown (S := SS wb mb ov) g1 (fun k e => by cases e; exact .inr (.inl rfl))) (fun _ h => h) (fun _ _ h => h)
  have hs6 := ho6.size
  have ho47 : Only (SS wb mb ov) w4 w7 := ho6.trans ho7 (fun _ h => h) (fun i hi e => .inr (.inr e))
  have l5 : wb < (w4.setCell ⟨wb, 6, none⟩ (.int .i64 q)).heap.size := by simpa using hls.1
  have hb6 := (g1.block wb l5 (by simpa using hne.symm)).trans hb5
  have hb7 := (ho7.block wb (Array.getElem?_eq_some_iff.1 hb6).1 (fun e => (h.sep wb e).1 rfl)).trans hb6
  have ho8 : Only (SS wb mb ov) w4 (w7.setCell ⟨wb, 7, none⟩ v') := ho47.set (.inl (.inl rfl)) 7 _
  have hwh4 : ∀ g, v'.ownBlock = some g → ov.ownBlock = some g ∨ w4.heap.size ≤ g := fun g hg => (hwh g hg).imp id (fun e => Nat.le_trans hs6 e)
  have hsep : ∀ g, v'.ownBlock = some g → g ≠ wb ∧ g ≠ mb := fun g hg => by
    rcases hwh4 g hg with e | e
    · exact h.sep g e
    · have := hls.1; have := hls.2.1; exact ⟨by omega, by omega⟩
  refine ⟨hb7, ⟨?_, ?_, ?_, h.ge, hsep, ?_, ?_, h.rb, ?_⟩, ⟨ho8, hwh4⟩⟩
  · have := set_of hb7 7 v'
    have e : (closeS s t).nested = q := by show s.nested - 1 = q; omega
    unfold wkC
    rw [e]
    exact this
  · have hm := (IMap.of_put h1 hnn hD hg).blk (w' := w7.setCell ⟨wb, 7, none⟩ v') ((Below.heap_setCell _ _ _ _ (by show mb ≠ wb; exact hne)).trans (ho7.block mb h1.lt (fun e => (h.sep mb e).2 rfl)))
    obtain ⟨a, b, c, d, e⟩ := hm
    refine ⟨a, b, ?_, d, e⟩
    have := h.nr
    show a ≤ 2 * s.reached - (s.nested - 1)
    omega
  · exact own_onlyS (F := fun j => j = wb) hown ((Only.refl (fun j => j = wb) w7).set (.inl rfl) 7 v') (fun g hg e => (hsep g hg).1 e)
  · exact h.old.trans (ho8.below (fun k hk => by
      rcases hk with e | e | e
      · rw [e]; exact h.ge.1
      · rw [e]; exact h.ge.2
      · exact (h.ord.lt k e).1) h.old.size)
  · have := h.nr; show s.nested - 1 ≤ s.reached; omega
  · have := h.ol
    show (s.order ++ [t]).length + (s.nested - 1) ≤ s.reached
    rw [List.length_append]
    simp; omega
end
end Go.Proofs.YtjagnihkpgbjeaaDoor
