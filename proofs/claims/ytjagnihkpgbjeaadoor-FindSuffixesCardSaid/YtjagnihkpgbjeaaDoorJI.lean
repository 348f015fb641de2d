import Derived.Test.YtjagnihkpgbjeaaDoorJG
import Derived.Test.YtjagnihkpgbjeaaDoorLE
import Derived.Deep.CutRange
import Derived.Shelf.Vars
namespace Go.Proofs.YtjagnihkpgbjeaaDoor
open Go.RowKit Go.Maps Go.ChangeMaps
set_option linter.unusedVariables false
/-! Files written and rules pushed in turn: told apart by the kinds of their blocks. -/
theorem foot_ty {w : World} {B N f : Nat} {ty : TypeId} {tl : List Value} {T : Tr} {A : Pth → Nat} {M : Pth → Option Nat} {V : Pth → Value} (h : TreeAt w B N f ty tl T A M V) {k : Nat} (hk : foot T A M V k) {arr : Array Value} {t : TypeId} {z : Nat × Nat} (hb : w.heap[k]? = some (.cells arr t z)) : t = ty ∨ t = 69 ∨ t = 5 := by
  obtain ⟨p, n, hp, e | e | e⟩ := hk
  · subst e
    have := h.blk p n hp
    rw [hb] at this
    injection this with this
    injection this with _ this _
    rw [this]
    cases p with
    | nil => exact .inl rfl
    | cons => exact .inr (.inl rfl)
  · exfalso
    have := h.kids p n hp
    rw [e] at this
    obtain ⟨nn, D, _, ⟨es, clock, q2, _⟩, _⟩ := this.yes k rfl
    rw [hb] at q2
    cases q2
  · rcases (h.data p n hp).2 with ⟨r1, _⟩ | ⟨b, cap, cur, r1, _, r3, _⟩
    · rw [r1] at e; cases e
    · rw [r1] at e
      injection e with e
      have e : b = k := e
      rw [e, hb] at r3
      injection r3 with r3
      injection r3 with _ r3 _
      exact .inr (.inr r3)
def Kept (w w' : World) : Prop := ∀ (g : Nat) (arr : Array Value) (t : TypeId) (z : Nat × Nat), t ≠ 71 → t ≠ 69 → t ≠ 5 → w.heap[g]? = some (.cells arr t z) → w'.heap[g]? = some (.cells arr t z)
theorem Write_sxk {B : Nat} {w : World} {N f : Nat} {c : Cn} {T : Tr} {s : Bz} (h : Sx B w N f c T) (hs : Nm s) (hn : T [s] = none) (hc : c.Ok) (hN : N < maxLen) (hfull : ¬ c.nodes ≤ c.count) (hroom : c.size ≤ c.bytes) :
    Calls Tryd.prog 15 #[.pointer (some ⟨f, 0, none⟩), .string (pathB s), .slice none 0 0, .bool false] w fun e w' => (e = .returned (.int .i64 0) ∧ Sx B w' (N + 1) f ⟨c.nodes, c.bytes, c.count + 1, c.size, c.clock + 1⟩ (setF T [s] (some ⟨true, [], c.clock + 1⟩)) ∧ Below B w w') ∧ Kept w w' := by
  obtain ⟨⟨F, ⟨A, M, V, h1, hf, hr⟩, h2⟩, h3⟩ := h
  have hFs : Fs w B N f c T (foot T A M V) := ⟨A, M, V, h1, fun j hj => hj, hr⟩
  refine (WriteN hFs hs hn hc hN h3 hfull hroom).mono ?_
  intro e w' hm
  refine ⟨Sx.mut hFs (fun j hj => h2 j (hf j hj)) h3 hm, fun g arr t z t1 t2 t3 hg => ?_⟩
  refine (hm.2.2.block g (Array.getElem?_eq_some_iff.1 hg).1 (fun e => ?_)).trans hg
  rcases foot_ty h1 e hg with r | r | r
  · exact t1 r
  · exact t2 r
  · exact t3 r
theorem Gr.write {B : Nat} {w0 w w' : World} {b4 : Nat} {v : Value} {L : List Rl} (h : Gr w0 w b4 v L) (hB : Below B w w') (h0 : w0.heap.size ≤ B) (hk : Kept w w') : Gr w0 w' b4 v L := by
  obtain ⟨cs, h1, h2, h3⟩ := h.own
  have hsb : ∀ (g : Nat) (arr : Array Value), w.heap[g]? = some (.cells arr 9 (0, 0)) → w'.heap[g]? = some (.cells arr 9 (0, 0)) := fun g arr hg => hk g arr 9 _ (by decide) (by decide) (by decide) hg
  refine ⟨hk b4 _ 45 _ (by decide) (by decide) (by decide) h.blk, ⟨cs, h1, ⟨h2.1, ?_⟩, fun i hi hi' => ⟨(h3 i hi hi').t.keep hsb, (h3 i hi hi').n.keep hsb, (h3 i hi hi').k.keep hsb⟩⟩, ?_, h.lt⟩
  · rcases h2.2 with hn | ⟨g, cap, cur, e, r1, r2, r⟩
    · exact .inl hn
    · exact .inr ⟨g, cap, cur, e, r1, hk g _ 48 _ (by decide) (by decide) (by decide) r2, r⟩
  · have ho : Only (fun j => B ≤ j) w w' := ⟨hB.os, hB.tape, hB.output, hB.size, fun k _ hne => hB.block k (Nat.lt_of_not_le hne)⟩
    exact h.old.trans ho (fun _ h => h) (fun i hi e => by omega)
theorem Gr.push2 {w0 w : World} {b4 : Nat} {v : Value} {L : List Rl} (h : Gr w0 w b4 v L) (m : Nat) (hm : L.length = m) (hl : m ≤ 1000) (x y z : Value) (r : Rl) (h3 : R3 w (x, y, z) r) :
    ∃ v' w3, (Builtin.append_ #[43, 43] 43 #[v, .slice (some ⟨w.heap.size, 0, none⟩) 1 1]).run Tryd.prog (w.alloc (.cells #[x, y, z] 48)) = .ok v' w3 ∧
      w3.cell? ⟨b4, 1, none⟩ = some v ∧ w3.frozen? ⟨b4, 1, none⟩ = false ∧ (∃ g c, v' = .slice (some ⟨g, 0, none⟩) (m + 1) c) ∧ Gr w0 (w3.setCell ⟨b4, 1, none⟩ v') b4 v' (L ++ [r]) ∧ Only (fun j => j = b4 ∨ v.ownBlock = some j) w (w3.setCell ⟨b4, 1, none⟩ v') := by
  subst hm
  obtain ⟨i0, hi, hz0, hz1, hz2⟩ := info_parts info48
  obtain ⟨w2, hw2⟩ : ∃ w2, w.alloc (.cells #[x, y, z] 48) = w2 := ⟨_, rfl⟩
  have hw0 : Below w.heap.size w w2 := hw2 ▸ below_alloc _ _
  have hs2 : w2.heap.size = w.heap.size + 1 := by rw [← hw2, size_alloc]
  have hn2 : w2.heap[w.heap.size]? = some (.cells #[x, y, z] 48 (0, 0)) := hw2 ▸ heap_alloc_new w _
  rw [hw2]
  have h2' := h.below hw0
  obtain ⟨cs, hcl, hown, hr⟩ := h2'.own
  have hsw := h.old.size
  obtain ⟨v', w3, e1, e2, e3, e4⟩ := run_append_own (P := Tryd.prog) w2 w0.heap.size 43 43 48 i0 _ 3 72 Tryd.underlying43 hi hz0 hz1 hz2 rfl (by decide) v L.length (tri cs) hown ⟨w.heap.size, 0, none⟩ 1 1 [x, y, z] rfl
    (fun j u hj => by
      rw [addk, Nat.zero_add]
      simp only [World.cell?, hn2]
      simpa using hj) (by
      intro u hu
      simp only [List.mem_cons, List.not_mem_nil, or_false] at hu
      rcases hu with rfl | rfl | rfl
      · exact oneCell_sl h3.t.sl
      · exact oneCell_sl h3.n.sl
      · exact oneCell_sl h3.k.sl) (by unfold maxLen; omega) (by omega) (by omega)
  have hty : ∀ (g : Nat) (arr : Array Value) (t : TypeId), t ≠ 48 → w2.heap[g]? = some (.cells arr t (0, 0)) → v.ownBlock ≠ some g := fun g arr t ht hg e => by
    rcases hown.2 with ⟨r1, _⟩ | ⟨b, cap, cur, r1, _, r3, _⟩
    · rw [r1] at e; cases e
    · rw [r1] at e
      injection e with e
      have e : b = g := e
      rw [e, hg] at r3
      injection r3 with r3
      injection r3 with _ r3 _
      exact ht r3
  have hb2 := h2'.blk
  have hkeep : ∀ (g : Nat) (arr : Array Value) (t : TypeId), t ≠ 48 → w2.heap[g]? = some (.cells arr t (0, 0)) → w3.heap[g]? = some (.cells arr t (0, 0)) := fun g arr t ht hg =>
    (e3.block g (Array.getElem?_eq_some_iff.1 hg).1 (fun e => hty g arr t ht hg e.symm)).trans hg
  have hb3 := hkeep b4 _ 45 (by decide) hb2
  have hkeep2 : ∀ (g : Nat) (arr : Array Value), w2.heap[g]? = some (.cells arr 9 (0, 0)) → (w3.setCell ⟨b4, 1, none⟩ v').heap[g]? = some (.cells arr 9 (0, 0)) := fun g arr hg => by
    have h3 := hkeep g arr 9 (by decide) hg
    have hne : g ≠ b4 := by
      intro e
      rw [e, hb3] at h3
      injection h3 with h3
      injection h3 with _ h3 _
      cases h3
    rw [Below.heap_setCell _ _ _ _ (by show g ≠ b4; exact hne)]; exact h3
  have h3w : R3 w2 (x, y, z) r := ⟨h3.t.below hw0, h3.n.below hw0, h3.k.below hw0⟩
  obtain ⟨g9, c9, hv9, _⟩ := e2.form (by omega)
  have hGr : Gr w0 (w3.setCell ⟨b4, 1, none⟩ v') b4 v' (L ++ [r]) := by
    refine ⟨set_of hb3 1 v', ⟨cs ++ [(x, y, z)], by simp [hcl], ?_, fun i hi' hi2 => ?_⟩, ?_, h.lt⟩
    · rw [tri_app, List.length_append]
      exact own_onlyS (F := fun j => j = b4) e2 ((Only.refl (fun j => j = b4) w3).set (.inl rfl) 1 v') (fun g hg e => by
        have := (e2.lt g hg).1
        have := h.lt
        omega)
    · by_cases e : i < cs.length
      · have hiL : i < L.length := by omega
        have := hr i hiL e
        rw [List.getElem_append_left e, List.getElem_append_left hiL]
        exact ⟨this.t.keep hkeep2, this.n.keep hkeep2, this.k.keep hkeep2⟩
      · have e2 : i = cs.length := by simp at hi2; omega
        subst e2
        rw [List.getElem_append_right (Nat.le_refl _), List.getElem_append_right (by omega)]
        simp only [hcl, Nat.sub_self, List.getElem_singleton]
        exact ⟨h3w.t.keep hkeep2, h3w.n.keep hkeep2, h3w.k.keep hkeep2⟩
    · refine ((h2'.old).trans (Only.of_grown (S := fun i => v.ownBlock = some i) e3 (fun k hk => hk)) (fun _ h => h) (fun i hi e => ?_)).set (.inl rfl) 1 v'
      have := (hown.lt i e).1
      omega
  exact ⟨v', w3, e1, cell_of hb3 1, free_of hb3 1, ⟨g9, c9, hv9⟩, hGr, ((Only.of_below (S := fun j => j = b4 ∨ v.ownBlock = some j) hw0).trans (Only.of_grown (S := fun i => v.ownBlock = some i) e3 (fun k hk => hk)) (fun _ h => h) (fun _ _ h => .inr h)).set (.inl (.inl rfl)) 1 v'⟩
theorem Sx.push {B : Nat} {w w' : World} {N f : Nat} {c : Cn} {T : Tr} {w0 : World} {b4 : Nat} {v : Value} {L : List Rl} (h : Sx B w N f c T) (hg : Gr w0 w b4 v L) (ho : Only (fun j => j = b4 ∨ v.ownBlock = some j) w w') : Sx B w' N f c T := by
  obtain ⟨⟨F, ⟨A, M, V, h1, hf, hr⟩, h2⟩, h3⟩ := h
  obtain ⟨cs, _, how, _⟩ := hg.own
  refine ⟨⟨foot T A M V, ⟨A, M, V, h1.only ho (fun k hk hft => ?_), fun j hj => hj, hr⟩, fun j hj => ⟨(h2 j (hf j hj)).1, Nat.lt_of_lt_of_le (h2 j (hf j hj)).2 ho.size⟩⟩, Nat.le_trans h3 ho.size⟩
  rcases hk with rfl | hk
  · rcases foot_ty h1 hft hg.blk with r | r | r <;> cases r
  · rcases how.2 with ⟨r1, _⟩ | ⟨b, cap, cur, r1, _, r3, _⟩
    · rw [r1] at hk; cases hk
    · rw [r1] at hk
      injection hk with hk
      have hk : b = k := hk
      rw [hk] at r3
      rcases foot_ty h1 hft r3 with r | r | r <;> cases r
end Go.Proofs.YtjagnihkpgbjeaaDoor

namespace Go.Proofs.YtjagnihkpgbjeaaDoor
open Go.RowKit Go.Maps Go.ChangeMaps
set_option linter.unusedVariables false
/-! FindSuffixes: the rules as the law makes them. -/
theorem SB.pair (w : World) (a b : Bs) : SB (w.alloc (.cells #[.string (nameB a), .string (nameB b)] 9)) (.slice (some ⟨w.heap.size, 0, none⟩) 2 2) [a, b] :=
  .inr ⟨w.heap.size, rfl, heap_alloc_new w _, by simp⟩
structure Mk1 (w wA : World) (a b : Bs) : Prop where
  old : Below w.heap.size w wA
  sz : wA.heap.size = w.heap.size + 1 + 1 + 1 + 1
  row : wA.heap[w.heap.size + 1 + 1]? = some (.cells [.slice (some ⟨w.heap.size, 0, none⟩) 1 1, .slice none 0 0, .slice (some ⟨w.heap.size + 1, 0, none⟩) 1 1].toArray 48 (0, 0))
  box : wA.heap[w.heap.size + 1 + 1 + 1]? = some (.cells [.slice none 0 0, .slice (some ⟨w.heap.size + 1 + 1, 0, none⟩) 1 1].toArray 45 (0, 0))
  t : SB wA (.slice (some ⟨w.heap.size, 0, none⟩) 1 1) [46 :: (a ++ 46 :: b)]
  r : SB wA (.slice (some ⟨w.heap.size + 1, 0, none⟩) 1 1) [[114]]
theorem mk1 (w : World) (a b : Bs) : ∀ wA, (((w.alloc (.cells #[.string (nameB (46 :: (a ++ 46 :: b)))] 9)).alloc (.cells #[.string ⟨#[114]⟩] 9)).alloc (.cells #[.slice (some ⟨w.heap.size, 0, none⟩) 1 1, .slice none 0 0, .slice (some ⟨w.heap.size + 1, 0, none⟩) 1 1] 48)).alloc (.cells #[.slice none 0 0, .slice (some ⟨w.heap.size + 1 + 1, 0, none⟩) 1 1] 45) = wA → Mk1 w wA a b := by
  intro wA hA
  obtain ⟨w1, h1⟩ : ∃ w1, w.alloc (.cells #[.string (nameB (46 :: (a ++ 46 :: b)))] 9) = w1 := ⟨_, rfl⟩
  have s1 : w1.heap.size = w.heap.size + 1 := by rw [← h1, size_alloc]
  obtain ⟨w2, h2⟩ : ∃ w2, w1.alloc (.cells #[.string ⟨#[114]⟩] 9) = w2 := ⟨_, rfl⟩
  have s2 : w2.heap.size = w.heap.size + 1 + 1 := by rw [← h2, size_alloc, s1]
  obtain ⟨w3, h3⟩ : ∃ w3, w2.alloc (.cells #[.slice (some ⟨w.heap.size, 0, none⟩) 1 1, .slice none 0 0, .slice (some ⟨w.heap.size + 1, 0, none⟩) 1 1] 48) = w3 := ⟨_, rfl⟩
  have s3 : w3.heap.size = w.heap.size + 1 + 1 + 1 := by rw [← h3, size_alloc, s2]
  rw [h1, h2, h3] at hA
  have b1 : Below w.heap.size w w1 := h1 ▸ below_alloc _ _
  have b2 : Below w1.heap.size w1 w2 := h2 ▸ below_alloc _ _
  have b3 : Below w2.heap.size w2 w3 := h3 ▸ below_alloc _ _
  have b4 : Below w3.heap.size w3 wA := hA ▸ below_alloc _ _
  have t1 : SB w1 (.slice (some ⟨w.heap.size, 0, none⟩) 1 1) [46 :: (a ++ 46 :: b)] := by rw [← h1]; exact SB.one w _
  have t2 : SB w2 (.slice (some ⟨w.heap.size + 1, 0, none⟩) 1 1) [[114]] := by rw [← h2, ← s1]; exact SB.one w1 [114]
  refine ⟨below_trans b1 (below_trans b2 (below_trans b3 b4)), by rw [← hA, size_alloc, s3], ?_, ?_, ((t1.below b2).below b3).below b4, (t2.below b3).below b4⟩
  · rw [b4.block _ (by omega), ← s2, ← h3]; exact heap_alloc_new w2 _
  · rw [← s3, ← hA]; exact heap_alloc_new w3 _
theorem rsv_one {w : World} {g : Nat} {x y z : Value} {c : Nat} {r : Rl} (hb : w.heap[g]? = some (.cells [x, y, z].toArray 48 (0, 0))) (hc : 1 ≤ c) (hc2 : c ≤ 1000) (ht : SB w x r.ts) (hn : SB w y r.ns) (hk : SB w z r.rc) : RsV w (.slice (some ⟨g, 0, none⟩) 1 c) [r] := by
  refine .inr ⟨g, 0, c, rfl, hc, by omega, (Array.getElem?_eq_some_iff.1 hb).1, fun i hi => ?_⟩
  have hi0 : i = 0 := by simpa using hi
  subst hi0
  exact ⟨x, y, z, cell_of hb 0, cell_of hb 1, cell_of hb 2, ⟨ht.sl, .inl hn.sl, hk.sl, by have := ht.len; exact Nat.le_trans this (by omega), by have := hn.len; exact Nat.le_trans this (by omega), by have := hk.len; exact Nat.le_trans this (by omega)⟩⟩
/-- What the second rule leaves. -/
structure Mk2 (w : World) (b3 : Nat) (a b : Bs) (v' : Value) (W4 : World) (lo : Nat) : Prop where
  old : Below lo w W4
  box : W4.heap[b3]? = some (.cells [.slice none 0 0, v'].toArray 45 (0, 0))
  rsv : RsV W4 v' (rsS a b true)
set_option maxRecDepth 100000 in
theorem mk2 {w0 w : World} {a b : Bs} (h : Mk1 w0 w a b) : ∃ v' w3, (Builtin.append_ #[43, 43] 43 #[.slice (some ⟨w0.heap.size + 1 + 1, 0, none⟩) 1 1, .slice (some ⟨w.heap.size + 1 + 1, 0, none⟩) 1 1]).run Tryd.prog
      (((w.alloc (.cells #[.string ⟨#[46, 83, 85, 70, 70, 73, 88, 69, 83]⟩] 9)).alloc (.cells #[.string (nameB (46 :: a)), .string (nameB (46 :: b))] 9)).alloc (.cells #[.slice (some ⟨w.heap.size, 0, none⟩) 1 1, .slice (some ⟨w.heap.size + 1, 0, none⟩) 2 2, .slice none 0 0] 48)) = .ok v' w3 ∧
      (∃ g c, v' = .slice (some ⟨g, 0, none⟩) 2 c) ∧ w3.cell? ⟨w0.heap.size + 1 + 1 + 1, 1, none⟩ = some (.slice (some ⟨w0.heap.size + 1 + 1, 0, none⟩) 1 1) ∧ w3.frozen? ⟨w0.heap.size + 1 + 1 + 1, 1, none⟩ = false ∧
      Mk2 w0 (w0.heap.size + 1 + 1 + 1) a b v' (w3.setCell ⟨w0.heap.size + 1 + 1 + 1, 1, none⟩ v') w0.heap.size := by
  obtain ⟨i0, hi, hz0, hz1, hz2⟩ := info_parts info48
  obtain ⟨w1, h1⟩ : ∃ w1, w.alloc (.cells #[.string ⟨#[46, 83, 85, 70, 70, 73, 88, 69, 83]⟩] 9) = w1 := ⟨_, rfl⟩
  have s1 : w1.heap.size = w.heap.size + 1 := by rw [← h1, size_alloc]
  obtain ⟨w2, h2⟩ : ∃ w2, w1.alloc (.cells #[.string (nameB (46 :: a)), .string (nameB (46 :: b))] 9) = w2 := ⟨_, rfl⟩
  have s2 : w2.heap.size = w.heap.size + 1 + 1 := by rw [← h2, size_alloc, s1]
  obtain ⟨w3, h3⟩ : ∃ w3, w2.alloc (.cells #[.slice (some ⟨w.heap.size, 0, none⟩) 1 1, .slice (some ⟨w.heap.size + 1, 0, none⟩) 2 2, .slice none 0 0] 48) = w3 := ⟨_, rfl⟩
  have s3 : w3.heap.size = w.heap.size + 1 + 1 + 1 := by rw [← h3, size_alloc, s2]
  rw [h1, h2, h3]
  have b1 : Below w.heap.size w w1 := h1 ▸ below_alloc _ _
  have b2 : Below w1.heap.size w1 w2 := h2 ▸ below_alloc _ _
  have b3 : Below w2.heap.size w2 w3 := h3 ▸ below_alloc _ _
  have b13 := below_trans b1 (below_trans b2 b3)
  have t1 : SB w3 (.slice (some ⟨w.heap.size, 0, none⟩) 1 1) [sufB] := (((by rw [← h1]; exact SB.one w sufB : SB w1 _ _)).below b2).below b3
  have t2 : SB w3 (.slice (some ⟨w.heap.size + 1, 0, none⟩) 2 2) [46 :: a, 46 :: b] := ((by rw [← h2, ← s1]; exact SB.pair w1 (46 :: a) (46 :: b) : SB w2 _ _)).below b3
  have hn3 : w3.heap[w.heap.size + 1 + 1]? = some (.cells #[.slice (some ⟨w.heap.size, 0, none⟩) 1 1, .slice (some ⟨w.heap.size + 1, 0, none⟩) 2 2, .slice none 0 0] 48 (0, 0)) := by rw [← s2, ← h3]; exact heap_alloc_new w2 _
  have hrow := (b13.block _ (by have := h.sz; omega)).trans h.row
  have hbox := (b13.block _ (by have := h.sz; omega)).trans h.box
  have hown : w3.ownsRow w0.heap.size 48 3 (.slice (some ⟨w0.heap.size + 1 + 1, 0, none⟩) 1 1) 1 [.slice (some ⟨w0.heap.size, 0, none⟩) 1 1, .slice none 0 0, .slice (some ⟨w0.heap.size + 1, 0, none⟩) 1 1] :=
    ⟨rfl, .inr ⟨_, 1, _, rfl, by omega, hrow, Nat.le_refl _, by unfold maxLen; omega, rfl, rfl⟩⟩
  obtain ⟨v', w4, e1, e2, e3, e4⟩ := run_append_own (P := Tryd.prog) w3 w0.heap.size 43 43 48 i0 _ 3 72 Tryd.underlying43 hi hz0 hz1 hz2 rfl (by decide) _ 1 _ hown ⟨w.heap.size + 1 + 1, 0, none⟩ 1 1 [.slice (some ⟨w.heap.size, 0, none⟩) 1 1, .slice (some ⟨w.heap.size + 1, 0, none⟩) 2 2, .slice none 0 0] rfl
    (fun j u hj => by
      rw [addk, Nat.zero_add]
      simp only [World.cell?, hn3]
      simpa using hj) (by
      intro u hu
      simp only [List.mem_cons, List.not_mem_nil, or_false] at hu
      rcases hu with rfl | rfl | rfl <;> rfl) (by unfold maxLen; omega) (by omega) (by have := h.sz; omega)
  have hsz := h.sz
  have ho : Only (fun j => j = w0.heap.size + 1 + 1) w3 w4 := Only.of_grown e3 (fun k hk => by injection hk with hk; exact hk.symm)
  have hbox4 := (ho.block _ (Array.getElem?_eq_some_iff.1 hbox).1 (by omega)).trans hbox
  obtain ⟨g, cap, hv', hcap⟩ := e2.form (by omega)
  subst hv'
  have hgb : g ≠ w0.heap.size + 1 + 1 + 1 := by
    rcases e2.2 with ⟨r1, _⟩ | ⟨q, cap', cur, r1, _, r3, _⟩
    · cases r1
    · injection r1 with r1
      injection r1 with r1
      injection r1 with r1
      subst r1
      intro e
      rw [e, hbox4] at r3
      injection r3 with r3
      injection r3 with _ r3 _
      cases r3
  have ho5 : Only (fun j => j = w0.heap.size + 1 + 1 ∨ j = w0.heap.size + 1 + 1 + 1) w3 (w4.setCell ⟨w0.heap.size + 1 + 1 + 1, 1, none⟩ (.slice (some ⟨g, 0, none⟩) (1 + 1) cap)) := (ho.mono fun j e => .inl e).set (.inl (.inr rfl)) 1 _
  have hkeep : ∀ (x : Nat) (arr : Array Value), w3.heap[x]? = some (.cells arr 9 (0, 0)) → (w4.setCell ⟨w0.heap.size + 1 + 1 + 1, 1, none⟩ (.slice (some ⟨g, 0, none⟩) (1 + 1) cap)).heap[x]? = some (.cells arr 9 (0, 0)) := fun x arr hx =>
    (ho5.block x (Array.getElem?_eq_some_iff.1 hx).1 (fun e => by
      rcases e with e | e
      · rw [e, hrow] at hx; injection hx with hx; injection hx with _ hx _; cases hx
      · rw [e, hbox] at hx; injection hx with hx; injection hx with _ hx _; cases hx)).trans hx
  have hown5 : (w4.setCell ⟨w0.heap.size + 1 + 1 + 1, 1, none⟩ (.slice (some ⟨g, 0, none⟩) (1 + 1) cap)).ownsRow w0.heap.size 48 3 (.slice (some ⟨g, 0, none⟩) (1 + 1) cap) (1 + 1) _ :=
    own_onlyS (F := fun j => j = w0.heap.size + 1 + 1 + 1) e2 ((Only.refl (fun j => j = w0.heap.size + 1 + 1 + 1) w4).set (.inl rfl) 1 _) (fun q hq e => by
      injection hq with hq
      exact hgb (hq.trans e))
  refine ⟨_, w4, e1, ⟨g, cap, rfl⟩, cell_of hbox4 1, free_of hbox4 1, ?_, set_of hbox4 1 _, ?_⟩
  · exact h.old.trans ((b13.mono (by omega)).trans (ho5.below (fun j e => by rcases e with e | e <;> omega) (by omega)))
  · have e0 := (h.t.below b13).keep hkeep
    have e1' := (h.r.below b13).keep hkeep
    have f0 := t1.keep hkeep
    have f1 := t2.keep hkeep
    rcases hown5.2 with ⟨r1, _⟩ | ⟨q, cap', cur, r1, _, r3, r4, r5, r6, r7⟩
    · cases r1
    · have hq : g = q ∧ cap = cap' := by
        injection r1 with r1 _ r2
        injection r1 with r1
        injection r1 with r1
        exact ⟨r1, r2⟩
      obtain ⟨rfl, rfl⟩ := hq
      refine .inr ⟨g, 0, cap, rfl, r4, by unfold maxLen at r5; omega, (Array.getElem?_eq_some_iff.1 r3).1, fun i hi => ?_⟩
      have hi2 : i < 2 := hi
      have hc := fun j hj => World.ownsRow.cellAt hown5 j hj
      match i, hi2 with
      | 0, _ => exact ⟨_, _, _, hc 0 (by omega), hc 1 (by omega), hc 2 (by omega), ⟨e0.sl, .inl (SB.nil _).sl, e1'.sl, by simp [rsS, ruS], by simp [rsS, ruS], by simp [rsS, ruS]⟩⟩
      | 1, _ => exact ⟨_, _, _, hc 3 (by omega), hc 4 (by omega), hc 5 (by omega), ⟨f0.sl, .inl f1.sl, (SB.nil _).sl, by simp [rsS, addS, sxS], by simp [rsS, addS, sxS], by simp [rsS, addS, sxS]⟩⟩
end Go.Proofs.YtjagnihkpgbjeaaDoor

namespace Go.Proofs.YtjagnihkpgbjeaaDoor
open Go.RowKit Go.Maps Go.ChangeMaps
set_option linter.unusedVariables false
/-! FindSuffixes: the walk. -/
theorem gbs_eqL (s : ByteArray) (i : Nat) (h : i < s.size) : s[i] = s.data.toList.getD i 0 := by
  rw [List.getD_eq_getElem?_getD, List.getElem?_eq_getElem (by simpa using h)]
  rfl
theorem emp_of {s : ByteArray} (h : s.size = 0) : s.toList.isEmpty = true := by
  have : s.data.toList = [] := List.eq_nil_of_length_eq_zero (by simpa using h)
  rw [Lib.toList_data, this]; rfl
theorem emp_no {s : ByteArray} (h : ¬ s.size = 0) : s.toList.isEmpty = false := by
  rw [Lib.toList_data]
  cases hs : s.data.toList with
  | nil => exact absurd (by have := congrArg List.length hs; simpa using this) h
  | cons => rfl
set_option maxRecDepth 100000 in
set_option maxHeartbeats 16000000 in
theorem suffixes_walk (a0 a1 a2 : ByteArray) (li th : Bool) (W : World) (hm : Hm W) (h0 : a0.data.toList.length ≤ 140737488351232) (h1 : a1.data.toList.length ≤ 140737488351232) (h2 : a2.data.toList.length ≤ 140737488351232) :
    Calls Tryd.prog 6 #[.string a0, .string a1, .string a2, .bool li, .bool th] W fun e w' => e = .returned (.bool true) ∧ Below W.heap.size W w' := by
  have HAL := Lib.hid (alive25 W hm)
  have HM := Lib.hid hm
  have h0 : a0.size ≤ 140737488351232 := by simpa using h0
  have h1 : a1.size ≤ 140737488351232 := by simpa using h1
  have h2 : a2.size ≤ 140737488351232 := by simpa using h2
  clear hm
  obtain ⟨X, hX⟩ : ∃ X, a0 ++ a1 = X := ⟨_, rfl⟩
  obtain ⟨TX, hTX⟩ : ∃ TX, X ++ a2 = TX := ⟨_, rfl⟩
  have sX : X.size = a0.size + a1.size := by rw [← hX]; exact ByteArray.size_append
  have sT : TX.size = a0.size + a1.size + a2.size := by rw [← hTX, ByteArray.size_append, sX]
  have lT : TX.data.toList = a0.data.toList ++ a1.data.toList ++ a2.data.toList := by rw [← hTX, ← hX]; simp [ByteArray.data_append]
  have g20 : ¬ (9223372036854775807 < a0.size + a1.size) := by omega
  have g22 : ¬ (9223372036854775807 < X.size + a2.size) := by omega
  by_cases c0 : a0.size = 0
  · have hE := emp_of c0
    go_enter Tryd.func6, Tryd.ntmps6
    go_wp2_with (go_at_call 25; refine HAL.out.mono ?_; rintro e w1 ⟨rfl, h0⟩; have H0 := Lib.hid h0; clear h0; simp only [])
    go_ret
    exact ⟨rfl, H0.out⟩
  have hE0 := emp_no c0
  by_cases c1 : a1.size = 0
  · have hE := emp_of c1
    go_enter Tryd.func6, Tryd.ntmps6
    go_wp2_with (go_at_call 25; refine HAL.out.mono ?_; rintro e w1 ⟨rfl, h0⟩; have H0 := Lib.hid h0; clear h0; simp only [])
    go_ret
    exact ⟨rfl, H0.out⟩
  have hE1 := emp_no c1
  by_cases c2 : a2.size = 0
  · have hE := emp_of c2
    go_enter Tryd.func6, Tryd.ntmps6
    go_wp2_with (go_at_call 25; refine HAL.out.mono ?_; rintro e w1 ⟨rfl, h0⟩; have H0 := Lib.hid h0; clear h0; simp only [])
    go_ret
    exact ⟨rfl, H0.out⟩
  have hE2 := emp_no c2
  by_cases c3 : a1.data.toList = a2.data.toList
  · have c3 : a1 = a2 := ByteArray.ext (Array.toList_inj.1 c3)
    subst c3
    go_enter Tryd.func6, Tryd.ntmps6
    go_wp2_with (go_at_call 25; refine HAL.out.mono ?_; rintro e w1 ⟨rfl, h0⟩; have H0 := Lib.hid h0; clear h0; simp only [])
    go_ret
    exact ⟨rfl, H0.out⟩
  have hN : ¬ a1 = a2 := fun e => c3 (by rw [e])
  have hN2 : (a1.toList == a2.toList) = false := by
    rw [beq_eq_false_iff_ne, Lib.toList_data, Lib.toList_data]; exact c3
  by_cases c4 : 60 < TX.size
  · have c4I : (60 : Int) < (TX.size : Int) := by omega
    go_enter Tryd.func6, Tryd.ntmps6
    go_wp2_with (go_at_call 25; refine HAL.out.mono ?_; rintro e w1 ⟨rfl, h0⟩; have H0 := Lib.hid h0; clear h0; simp only [])
    go_ret
    exact ⟨rfl, H0.out⟩
  have c4I : ¬ (60 : Int) < (TX.size : Int) := by omega
  have HC0 := Lib.hid c0
  have HC1 := Lib.hid c1
  have HC2 := Lib.hid c2
  have HC3 := Lib.hid c3
  have HC4 := Lib.hid c4
  have HST := Lib.hid sT
  have HLT := Lib.hid lT
  clear c0 c1 c2 c3 c4 sT lT
  go_enter Tryd.func6, Tryd.ntmps6
  go_wp2_with (go_at_call 25; refine HAL.out.mono ?_; rintro e w1 ⟨rfl, h0⟩; have H0 := Lib.hid h0; clear h0; simp only [])
  go_loopw [13] (fun i wr => ∃ k : Nat, k ≤ TX.size ∧ i = .int .i64 k ∧ wr = w1 ∧ Hid (∀ x ∈ TX.data.toList.take k, (97 : UInt8) ≤ x ∧ x ≤ 122)) (fun i _ => TX.size - (intOf i).toNat)
  case atStart => exact ⟨0, Nat.zero_le _, rfl, rfl, fun x hx => by simp at hx⟩
  case round =>
    obtain ⟨k, hk, rfl, hwr, HA⟩ := hrel
    subst hwr
    by_cases hlt : k < TX.size
    · have hltI : (k : Int) < (TX.size : Int) := by omega
      have hk0 : (0 : Int) ≤ (k : Int) := by omega
      have hgb := gbs_eqL TX k hlt
      have htk : TX.data.toList.take (k + 1) = TX.data.toList.take k ++ [TX.data.toList.getD k 0] := by
        have hl : k < TX.data.toList.length := by simpa using hlt
        rw [List.take_succ_eq_append_getElem hl, List.getD_eq_getElem?_getD, List.getElem?_eq_getElem hl]; rfl
      obtain ⟨x, hx⟩ : ∃ x, TX.data.toList.getD k 0 = x := ⟨_, rfl⟩
      rw [hx] at hgb htk
      have HTK := Lib.hid htk
      clear hx htk
      by_cases hlo : 97 ≤ x.toNat
      · have hloI : (97 : Int) ≤ (x.toNat : Int) := by omega
        by_cases hhi : x.toNat ≤ 122
        · have hhiI : (x.toNat : Int) ≤ 122 := by omega
          have HNX : Hid (∀ y ∈ TX.data.toList.take (k + 1), (97 : UInt8) ≤ y ∧ y ≤ 122) := by
            rw [Hid, HTK.out]
            intro y hy
            rcases List.mem_append.1 hy with h | h
            · exact HA.out y h
            · rw [List.mem_singleton.1 h]
              exact ⟨UInt8.le_iff_toNat_le.2 hlo, UInt8.le_iff_toNat_le.2 hhi⟩
          go_wp2_with fail
          exact ⟨⟨k + 1, by omega, by go_num, by trivial, HNX.out⟩, by simp [intOf]; omega⟩
        · have hhiI : ¬ (x.toNat : Int) ≤ 122 := by omega
          go_wp2_with fail
          go_ret
          exact ⟨rfl, H0.out⟩
      · have hloI : ¬ (97 : Int) ≤ (x.toNat : Int) := by omega
        go_wp2_with fail
        go_ret
        exact ⟨rfl, H0.out⟩
    · have hltI : ¬ (k : Int) < (TX.size : Int) := by omega
      have hall : Low TX.data.toList := by
        have := HA.out
        rw [List.take_of_length_le (by simp; omega)] at this
        exact this
      rw [HLT.out] at hall
      obtain ⟨st, hst⟩ : ∃ st, a0.data.toList = st := ⟨_, rfl⟩
      obtain ⟨a, ha⟩ : ∃ a, a1.data.toList = a := ⟨_, rfl⟩
      obtain ⟨b, hb⟩ : ∃ b, a2.data.toList = b := ⟨_, rfl⟩
      rw [hst, ha, hb] at hall
      have e0 : nameB st = a0 := by rw [← hst]; rfl
      have e1 : nameB a = a1 := by rw [← ha]; rfl
      have e2 : nameB b = a2 := by rw [← hb]; rfl
      have n0 : a0.size = st.length := by rw [← e0]; exact nameB_size _
      have n1 : a1.size = a.length := by rw [← e1]; exact nameB_size _
      have n2 : a2.size = b.length := by rw [← e2]; exact nameB_size _
      have hok : SfxOk st a b := ⟨hall.app.1.app.1, hall.app.1.app.2, hall.app.2, fun e => HC0.out (by rw [n0, e]; rfl), fun e => HC1.out (by rw [n1, e]; rfl), fun e => HC2.out (by rw [n2, e]; rfl), fun e => HC3.out (by rw [ha, hb]; exact e), by have := HC4.out; have := HST.out; omega⟩
      have HOK := Lib.hid hok
      have hlen := hok.le
      -- the texts
      obtain ⟨X1, hX1⟩ : ∃ X1, (⟨#[46]⟩ : ByteArray) ++ a1 = X1 := ⟨_, rfl⟩
      obtain ⟨X2, hX2⟩ : ∃ X2, X1 ++ (⟨#[46]⟩ : ByteArray) = X2 := ⟨_, rfl⟩
      obtain ⟨X3, hX3⟩ : ∃ X3, (⟨#[46]⟩ : ByteArray) ++ a2 = X3 := ⟨_, rfl⟩
      obtain ⟨S, hS⟩ : ∃ S, X2 ++ a2 = S := ⟨_, rfl⟩
      have f1 : nameB (46 :: a) = X1 := by rw [← hX1, ← e1]; exact (nameB_app [46] a).symm ▸ rfl
      have f3 : nameB (46 :: b) = X3 := by rw [← hX3, ← e2]; exact (nameB_app [46] b).symm ▸ rfl
      have fS : nameB (46 :: (a ++ 46 :: b)) = S := by
        rw [← hS, ← hX2, ← f1, ← e2]
        refine ByteArray.ext (Array.toList_inj.1 ?_)
        simp [nameB, ByteArray.data_append]
      obtain ⟨Y1, hY1⟩ : ∃ Y1, (⟨#[47]⟩ : ByteArray) ++ a0 = Y1 := ⟨_, rfl⟩
      obtain ⟨Y2, hY2⟩ : ∃ Y2, Y1 ++ (⟨#[46]⟩ : ByteArray) = Y2 := ⟨_, rfl⟩
      obtain ⟨PB, hPB⟩ : ∃ PB, Y2 ++ a1 = PB := ⟨_, rfl⟩
      have fP : pathB (st ++ 46 :: a) = PB := by
        rw [← hPB, ← hY2, ← hY1, ← e0, ← e1]
        refine ByteArray.ext (Array.toList_inj.1 ?_)
        simp [nameB, pathB, ByteArray.data_append]
      obtain ⟨Z1, hZ1⟩ : ∃ Z1, a0 ++ (⟨#[46]⟩ : ByteArray) = Z1 := ⟨_, rfl⟩
      obtain ⟨TG, hTG⟩ : ∃ TG, Z1 ++ a2 = TG := ⟨_, rfl⟩
      have fT : nameB (st ++ 46 :: b) = TG := by
        rw [← hTG, ← hZ1, ← e0, ← e2]
        refine ByteArray.ext (Array.toList_inj.1 ?_)
        simp [nameB, ByteArray.data_append]
      obtain ⟨NE, hNE⟩ : ∃ NE, Z1 ++ a1 = NE := ⟨_, rfl⟩
      have fN : nameB (st ++ 46 :: a) = NE := by
        rw [← hNE, ← hZ1, ← e0, ← e1]
        refine ByteArray.ext (Array.toList_inj.1 ?_)
        simp [nameB, ByteArray.data_append]
      have z1 : X1.size = a.length + 1 := by rw [← f1, nameB_size]; simp
      have z2 : X2.size = a.length + 2 := by rw [← hX2, ByteArray.size_append, z1]; rfl
      have zy1 : Y1.size = st.length + 1 := by rw [← hY1, ByteArray.size_append, n0]; show 1 + _ = _; omega
      have zy2 : Y2.size = st.length + 2 := by rw [← hY2, ByteArray.size_append, zy1]; rfl
      have zz1 : Z1.size = st.length + 1 := by rw [← hZ1, ByteArray.size_append, n0]; rfl
      have q1 : ¬ (9223372036854775807 < 1 + a1.size) := by omega
      have q2 : ¬ (9223372036854775807 < X1.size + 1) := by omega
      have q3 : ¬ (9223372036854775807 < X2.size + a2.size) := by omega
      have q4 : ¬ (9223372036854775807 < 1 + a2.size) := by omega
      have q5 : ¬ (9223372036854775807 < 1 + a0.size) := by omega
      have q6 : ¬ (9223372036854775807 < Y1.size + 1) := by omega
      have q7 : ¬ (9223372036854775807 < Y2.size + a1.size) := by omega
      have q8 : ¬ (9223372036854775807 < a0.size + 1) := by omega
      have q9 : ¬ (9223372036854775807 < Z1.size + a2.size) := by omega
      have q10 : ¬ (9223372036854775807 < Z1.size + a1.size) := by omega
      have HMK := Lib.hid (mk1 wr a b)
      rw [fS] at HMK
      obtain ⟨wA, hwA⟩ : ∃ wA, (((wr.alloc (.cells #[.string S] 9)).alloc (.cells #[.string ⟨#[114]⟩] 9)).alloc (.cells #[.slice (some ⟨wr.heap.size, 0, none⟩) 1 1, .slice none 0 0, .slice (some ⟨wr.heap.size + 1, 0, none⟩) 1 1] 48)).alloc (.cells #[.slice none 0 0, .slice (some ⟨wr.heap.size + 1 + 1, 0, none⟩) 1 1] 45) = wA := ⟨_, rfl⟩
      have HA1 := Lib.hid (HMK.out wA hwA)
      have HWA := Lib.hid hwA
      have HF1 := Lib.hid f1
      have HF3 := Lib.hid f3
      have HFP := Lib.hid fP
      have HFT := Lib.hid fT
      have HFN := Lib.hid fN
      have HE0 := Lib.hid e0
      clear f1 f3 fS fP fT fN e0 e1 e2 n0 n1 n2 z1 z2 zy1 zy2 zz1 hwA hall hok hst ha hb hlen
      go_upto_region 11 with (fail)
      rw [HWA.out]
      have HNEW := Lib.hid (fun w => New_sx 3 3 (by omega) (by omega) (by omega) (by omega) w)
      have HNM := Lib.hid (nm_two HOK.out.ls HOK.out.la HOK.out.s0 (by have := HOK.out.le; have := List.length_pos_iff.2 HOK.out.b0; omega))
      have HWR := Lib.hid (fun (B : Nat) (w1 : World) (f : Nat) (h : Sx B w1 0 f ⟨3, 3, 0, 0, 0⟩ newT) => Write_sx (s := st ++ 46 :: a) h HNM.out (by rfl) ⟨by decide, by decide, by decide, by decide, by decide⟩ (by decide) (by decide) (by decide))
      rw [HFP.out] at HWR
      have HPL := Lib.hid (fun (B : Nat) (w1 : World) (N f : Nat) (c : Cn) (rv : Value) (li th : Bool) (h : Sx B w1 N f c (trS (st ++ 46 :: a) th)) (hm1 : Hm w1) (hr : RsV w1 rv (rsS a b li)) => (show Calls Tryd.prog 27 #[.agg #[.slice none 0 0, rv], .pointer (some ⟨f, 0, none⟩), .string ⟨#[47]⟩, .string TG] w1 (PlanS (finS st (st ++ 46 :: a) (li && th)) w1) from by
        obtain ⟨F, h1, _⟩ := h.fs
        rw [← HFT.out]
        exact Plan_suf h1 hm1 (.slice none 0 0) rv st a b li th HOK.out hr ⟨_, _, _, rfl⟩ (kd_trS _ th)))
      unfold PlanS at HPL
      have HOLD : Hid (Below W.heap.size W wA) := below_trans H0.out HA1.out.old
      cases li
      · cases th
        · have HBX : Hid (wA.heap[wr.heap.size + 1 + 1 + 1]? = some (.cells [.slice none 0 0, .slice (some ⟨wr.heap.size + 1 + 1, 0, none⟩) 1 1].toArray 45 (0, 0))) := HA1.out.box
          have HRS : Hid (RsV wA (.slice (some ⟨wr.heap.size + 1 + 1, 0, none⟩) 1 1) (rsS a b false)) := rsv_one (r := ruS a b) HA1.out.row (Nat.le_refl _) (by omega) HA1.out.t (SB.nil _) HA1.out.r
          have HBO := HOLD
          obtain ⟨b3, hb3⟩ : ∃ b3, wr.heap.size + 1 + 1 + 1 = b3 := ⟨_, rfl⟩
          rw [hb3] at HBX
          simp only [hb3]
          clear hb3
          go_upto_region 17 with (first
            | (go_at_call 13; refine (HNEW.out _).mono ?_; rintro e w5 ⟨f, rfl, hf, h5⟩; have HSX := Lib.hid hf; have H5 : Hid (Below wA.heap.size wA w5) := h5; have HB5 := (H5.out.block _ (Array.getElem?_eq_some_iff.1 HBX.out).1).trans HBX.out; have m0 : w5.cell? ⟨b3, 0, none⟩ = some (.slice none 0 0) := cell_of HB5 0; have m1 : w5.cell? ⟨b3, 1, none⟩ = some (.slice (some ⟨wr.heap.size + 1 + 1, 0, none⟩) 1 1) := cell_of HB5 1; clear HB5; clear hf h5; simp only [])
            | (go_at_call 27; refine (HPL.out _ _ _ _ _ _ false false HSX.out (HM.out.below (HBO.out.trans (H5.out.mono HBO.out.size))) (HRS.out.below H5.out)).mono ?_; rintro e w7 ⟨nv, rv, rfl, hn7, hr7, h7⟩; have H7 := Lib.hid h7; have HNV := Lib.hid hn7; have HRV := Lib.hid hr7; obtain ⟨na, nc, hnf⟩ := hn7.len; obtain ⟨ra, rc, hrf⟩ := hr7.len; subst hnf; subst hrf; clear hn7 hr7 h7; simp only [finS]))
          go_wp2_with fail
          go_ret
          exact ⟨rfl, below_trans HBO.out (below_trans H5.out (below_trans H7.out (below_alloc _ _)))⟩
        · have HBX : Hid (wA.heap[wr.heap.size + 1 + 1 + 1]? = some (.cells [.slice none 0 0, .slice (some ⟨wr.heap.size + 1 + 1, 0, none⟩) 1 1].toArray 45 (0, 0))) := HA1.out.box
          have HRS : Hid (RsV wA (.slice (some ⟨wr.heap.size + 1 + 1, 0, none⟩) 1 1) (rsS a b false)) := rsv_one (r := ruS a b) HA1.out.row (Nat.le_refl _) (by omega) HA1.out.t (SB.nil _) HA1.out.r
          have HBO := HOLD
          obtain ⟨b3, hb3⟩ : ∃ b3, wr.heap.size + 1 + 1 + 1 = b3 := ⟨_, rfl⟩
          rw [hb3] at HBX
          simp only [hb3]
          clear hb3
          go_upto_region 17 with (first
            | (go_at_call 13; refine (HNEW.out _).mono ?_; rintro e w5 ⟨f, rfl, hf, h5⟩; have HSX := Lib.hid hf; have H5 : Hid (Below wA.heap.size wA w5) := h5; clear hf h5; simp only [])
            | (go_at_call 15; refine (HWR.out _ _ _ HSX.out).mono ?_; rintro e w6 ⟨rfl, hf6, h6⟩; have HSX6 := Lib.hid hf6; have H6 : Hid (Below wA.heap.size wA w6) := H5.out.trans h6; have HB6 := (H6.out.block _ (Array.getElem?_eq_some_iff.1 HBX.out).1).trans HBX.out; have m0 : w6.cell? ⟨b3, 0, none⟩ = some (.slice none 0 0) := cell_of HB6 0; have m1 : w6.cell? ⟨b3, 1, none⟩ = some (.slice (some ⟨wr.heap.size + 1 + 1, 0, none⟩) 1 1) := cell_of HB6 1; clear hf6 h6 HB6; simp only [])
            | (go_at_call 27; refine (HPL.out _ _ _ _ _ _ false true HSX6.out (HM.out.below (HBO.out.trans (H6.out.mono HBO.out.size))) (HRS.out.below H6.out)).mono ?_; rintro e w7 ⟨nv, rv, rfl, hn7, hr7, h7⟩; have H7 := Lib.hid h7; have HNV := Lib.hid hn7; have HRV := Lib.hid hr7; obtain ⟨na, nc, hnf⟩ := hn7.len; obtain ⟨ra, rc, hrf⟩ := hr7.len; subst hnf; subst hrf; clear hn7 hr7 h7; simp only [finS]))
          go_wp2_with fail
          go_ret
          exact ⟨rfl, below_trans HBO.out (below_trans H6.out (below_trans H7.out (below_alloc _ _)))⟩
      · cases th
        · have r1 : wA.cell? ⟨wr.heap.size + 1 + 1 + 1, 1, none⟩ = some (.slice (some ⟨wr.heap.size + 1 + 1, 0, none⟩) 1 1) := cell_of HA1.out.box 1
          obtain ⟨v', w3, hrun, ⟨gv, cv, rfl⟩, hc3, hf3, hmk⟩ := mk2 HA1.out
          rw [HF1.out, HF3.out] at hrun
          have HRUN := Lib.hid hrun
          have HMK2 := Lib.hid hmk
          obtain ⟨W4, hW4⟩ : ∃ W4, w3.setCell ⟨wr.heap.size + 1 + 1 + 1, 1, none⟩ (.slice (some ⟨gv, 0, none⟩) 2 cv) = W4 := ⟨_, rfl⟩
          rw [hW4] at HMK2
          have HW4 := Lib.hid hW4
          clear hrun hmk hW4
          go_upto_region 13 with (at_builtin; refine wpList_run_append _ rfl _ _ 43 43 rfl _ _ rfl rfl HRUN.out ?_)
          rw [HW4.out]
          have HBX : Hid (W4.heap[wr.heap.size + 1 + 1 + 1]? = some (.cells [.slice none 0 0, .slice (some ⟨gv, 0, none⟩) 2 cv].toArray 45 (0, 0))) := HMK2.out.box
          have HRS : Hid (RsV W4 (.slice (some ⟨gv, 0, none⟩) 2 cv) (rsS a b true)) := HMK2.out.rsv
          have HBO : Hid (Below W.heap.size W W4) := below_trans H0.out HMK2.out.old
          clear r1 hc3 hf3
          obtain ⟨b3, hb3⟩ : ∃ b3, wr.heap.size + 1 + 1 + 1 = b3 := ⟨_, rfl⟩
          rw [hb3] at HBX
          simp only [hb3]
          clear hb3
          go_upto_region 17 with (first
            | (go_at_call 13; refine (HNEW.out _).mono ?_; rintro e w5 ⟨f, rfl, hf, h5⟩; have HSX := Lib.hid hf; have H5 : Hid (Below W4.heap.size W4 w5) := h5; have HB5 := (H5.out.block _ (Array.getElem?_eq_some_iff.1 HBX.out).1).trans HBX.out; have m0 : w5.cell? ⟨b3, 0, none⟩ = some (.slice none 0 0) := cell_of HB5 0; have m1 : w5.cell? ⟨b3, 1, none⟩ = some (.slice (some ⟨gv, 0, none⟩) 2 cv) := cell_of HB5 1; clear HB5; clear hf h5; simp only [])
            | (go_at_call 27; refine (HPL.out _ _ _ _ _ _ true false HSX.out (HM.out.below (HBO.out.trans (H5.out.mono HBO.out.size))) (HRS.out.below H5.out)).mono ?_; rintro e w7 ⟨nv, rv, rfl, hn7, hr7, h7⟩; have H7 := Lib.hid h7; have HNV := Lib.hid hn7; have HRV := Lib.hid hr7; obtain ⟨na, nc, hnf⟩ := hn7.len; obtain ⟨ra, rc, hrf⟩ := hr7.len; subst hnf; subst hrf; clear hn7 hr7 h7; simp only [finS]))
          go_wp2_with fail
          go_ret
          exact ⟨rfl, below_trans HBO.out (below_trans H5.out (below_trans H7.out (below_alloc _ _)))⟩
        · have r1 : wA.cell? ⟨wr.heap.size + 1 + 1 + 1, 1, none⟩ = some (.slice (some ⟨wr.heap.size + 1 + 1, 0, none⟩) 1 1) := cell_of HA1.out.box 1
          obtain ⟨v', w3, hrun, ⟨gv, cv, rfl⟩, hc3, hf3, hmk⟩ := mk2 HA1.out
          rw [HF1.out, HF3.out] at hrun
          have HRUN := Lib.hid hrun
          have HMK2 := Lib.hid hmk
          obtain ⟨W4, hW4⟩ : ∃ W4, w3.setCell ⟨wr.heap.size + 1 + 1 + 1, 1, none⟩ (.slice (some ⟨gv, 0, none⟩) 2 cv) = W4 := ⟨_, rfl⟩
          rw [hW4] at HMK2
          have HW4 := Lib.hid hW4
          clear hrun hmk hW4
          go_upto_region 13 with (at_builtin; refine wpList_run_append _ rfl _ _ 43 43 rfl _ _ rfl rfl HRUN.out ?_)
          rw [HW4.out]
          have HBX : Hid (W4.heap[wr.heap.size + 1 + 1 + 1]? = some (.cells [.slice none 0 0, .slice (some ⟨gv, 0, none⟩) 2 cv].toArray 45 (0, 0))) := HMK2.out.box
          have HRS : Hid (RsV W4 (.slice (some ⟨gv, 0, none⟩) 2 cv) (rsS a b true)) := HMK2.out.rsv
          have HBO : Hid (Below W.heap.size W W4) := below_trans H0.out HMK2.out.old
          clear r1 hc3 hf3
          obtain ⟨b3, hb3⟩ : ∃ b3, wr.heap.size + 1 + 1 + 1 = b3 := ⟨_, rfl⟩
          rw [hb3] at HBX
          simp only [hb3]
          clear hb3
          go_upto_region 17 with (first
            | (go_at_call 13; refine (HNEW.out _).mono ?_; rintro e w5 ⟨f, rfl, hf, h5⟩; have HSX := Lib.hid hf; have H5 : Hid (Below W4.heap.size W4 w5) := h5; clear hf h5; simp only [])
            | (go_at_call 15; refine (HWR.out _ _ _ HSX.out).mono ?_; rintro e w6 ⟨rfl, hf6, h6⟩; have HSX6 := Lib.hid hf6; have H6 : Hid (Below W4.heap.size W4 w6) := H5.out.trans h6; have HB6 := (H6.out.block _ (Array.getElem?_eq_some_iff.1 HBX.out).1).trans HBX.out; have m0 : w6.cell? ⟨b3, 0, none⟩ = some (.slice none 0 0) := cell_of HB6 0; have m1 : w6.cell? ⟨b3, 1, none⟩ = some (.slice (some ⟨gv, 0, none⟩) 2 cv) := cell_of HB6 1; clear hf6 h6 HB6; simp only [])
            | (go_at_call 27; refine (HPL.out _ _ _ _ _ _ true true HSX6.out (HM.out.below (HBO.out.trans (H6.out.mono HBO.out.size))) (HRS.out.below H6.out)).mono ?_; rintro e w7 ⟨nv, rv, rfl, hn7, hr7, h7⟩; have H7 := Lib.hid h7; have HNV := Lib.hid hn7; have HRV := Lib.hid hr7; obtain ⟨na, nc, hnf⟩ := hn7.len; obtain ⟨ra, rc, hrf⟩ := hr7.len; subst hnf; subst hrf; clear hn7 hr7 h7; simp only [finS]))
          have hnv : SlS w7 (.slice na 1 nc) [st ++ 46 :: a] := HNV.out
          obtain ⟨gn, off, rfl, _, hc⟩ := strs_sl hnv (by simp)
          have hck : w7.cell? ⟨gn, off, none⟩ = some (.string NE) := by rw [← HFN.out]; exact hc 0 (by simp)
          have hgl := World.block_lt_of_cell? _ _ hck
          have hck2 : (w7.alloc (.cells #[.slice (some ⟨gn, off, none⟩) 1 nc, .slice ra 1 rc, .string a0, .bool true] 50)).cell? ⟨gn, off, none⟩ = some (.string NE) := ((below_alloc _ _).cell (p := ⟨gn, off, none⟩) hgl).trans hck
          rw [HE0.out]
          clear hnv hc hck
          go_wp2_with fail
          go_ret
          exact ⟨rfl, below_trans HBO.out (below_trans H6.out (below_trans H7.out (below_alloc _ _)))⟩
end Go.Proofs.YtjagnihkpgbjeaaDoor

namespace Go.Proofs.YtjagnihkpgbjeaaDoor
open Go.RowKit Go.Maps Go.ChangeMaps
theorem someMaxS {W : World} (h : W.ShapedOpen Tryd.prog) : Hm W :=
  cell_of_shapedOpen_int (g := 0) (t := 3) (zero := #[.int .i64 0]) h (of_decide_eq_true (by kernel_rfl)) (by kernel_rfl) rfl (by kernel_rfl) (by kernel_rfl) Tryd.underlying3
theorem reach47 {l : List UInt8} (h : l.length ≤ reachBytes) : l.length ≤ 140737488351232 := h
end Go.Proofs.YtjagnihkpgbjeaaDoor
