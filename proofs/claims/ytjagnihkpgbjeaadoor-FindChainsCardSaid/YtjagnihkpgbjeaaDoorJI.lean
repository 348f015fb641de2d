import Derived.Test.YtjagnihkpgbjeaaDoorJH
namespace Go.Proofs.YtjagnihkpgbjeaaDoor
open Go.RowKit Go.Maps Go.ChangeMaps
set_option linter.unusedVariables false
/-! Files written and rules pushed in turn: told apart by the kinds of their blocks. -/
theorem foot_ty {w : World} {B N f : Nat} {ty : TypeId} {tl : List Value} {T : Tr} {A : Pth → Nat} {M : Pth → Option Nat} {V : Pth → Value} (h : TreeAt w B N f ty tl T A M V) {k : Nat} (hk : foot T A M V k) {arr : Array Value} {t : TypeId} {z : Nat × Nat} (hb : w.heap[k]? = some (.cells arr t z)) : t = ty ∨ t = 69 ∨ t = 5 := by
  obtain ⟨p, n, hp, e | e | e⟩ := hk
  · subst e
    have := h.blk p n hp
    rw [hb] at this
    injection this with this
    injection this with _ this _
    rw [this]
    cases p with
    | nil => exact .inl rfl
    | cons => exact .inr (.inl rfl)
  · exfalso
    have := h.kids p n hp
    rw [e] at this
    obtain ⟨nn, D, _, ⟨es, clock, q2, _⟩, _⟩ := this.yes k rfl
    rw [hb] at q2
    cases q2
  · rcases (h.data p n hp).2 with ⟨r1, _⟩ | ⟨b, cap, cur, r1, _, r3, _⟩
    · rw [r1] at e; cases e
    · rw [r1] at e
      injection e with e
      have e : b = k := e
      rw [e, hb] at r3
      injection r3 with r3
      injection r3 with _ r3 _
      exact .inr (.inr r3)
def Kept (w w' : World) : Prop := ∀ (g : Nat) (arr : Array Value) (t : TypeId) (z : Nat × Nat), t ≠ 71 → t ≠ 69 → t ≠ 5 → w.heap[g]? = some (.cells arr t z) → w'.heap[g]? = some (.cells arr t z)
theorem Write_sxk {B : Nat} {w : World} {N f : Nat} {c : Cn} {T : Tr} {s : Bz} (h : Sx B w N f c T) (hs : Nm s) (hn : T [s] = none) (hc : c.Ok) (hN : N < maxLen) (hfull : ¬ c.nodes ≤ c.count) (hroom : c.size ≤ c.bytes) :
    Calls Tryd.prog 15 #[.pointer (some ⟨f, 0, none⟩), .string (pathB s), .slice none 0 0, .bool false] w fun e w' => (e = .returned (.int .i64 0) ∧ Sx B w' (N + 1) f ⟨c.nodes, c.bytes, c.count + 1, c.size, c.clock + 1⟩ (setF T [s] (some ⟨true, [], c.clock + 1⟩)) ∧ Below B w w') ∧ Kept w w' := by
  obtain ⟨⟨F, ⟨A, M, V, h1, hf, hr⟩, h2⟩, h3⟩ := h
  have hFs : Fs w B N f c T (foot T A M V) := ⟨A, M, V, h1, fun j hj => hj, hr⟩
  refine (WriteN hFs hs hn hc hN h3 hfull hroom).mono ?_
  intro e w' hm
  refine ⟨Sx.mut hFs (fun j hj => h2 j (hf j hj)) h3 hm, fun g arr t z t1 t2 t3 hg => ?_⟩
  refine (hm.2.2.block g (Array.getElem?_eq_some_iff.1 hg).1 (fun e => ?_)).trans hg
  rcases foot_ty h1 e hg with r | r | r
  · exact t1 r
  · exact t2 r
  · exact t3 r
theorem Gr.write {B : Nat} {w0 w w' : World} {b4 : Nat} {v : Value} {L : List Rl} (h : Gr w0 w b4 v L) (hB : Below B w w') (h0 : w0.heap.size ≤ B) (hk : Kept w w') : Gr w0 w' b4 v L := by
  obtain ⟨cs, h1, h2, h3⟩ := h.own
  have hsb : ∀ (g : Nat) (arr : Array Value), w.heap[g]? = some (.cells arr 9 (0, 0)) → w'.heap[g]? = some (.cells arr 9 (0, 0)) := fun g arr hg => hk g arr 9 _ (by decide) (by decide) (by decide) hg
  refine ⟨hk b4 _ 45 _ (by decide) (by decide) (by decide) h.blk, ⟨cs, h1, ⟨h2.1, ?_⟩, fun i hi hi' => ⟨(h3 i hi hi').t.keep hsb, (h3 i hi hi').n.keep hsb, (h3 i hi hi').k.keep hsb⟩⟩, ?_, h.lt⟩
  · rcases h2.2 with hn | ⟨g, cap, cur, e, r1, r2, r⟩
    · exact .inl hn
    · exact .inr ⟨g, cap, cur, e, r1, hk g _ 48 _ (by decide) (by decide) (by decide) r2, r⟩
  · have ho : Only (fun j => B ≤ j) w w' := ⟨hB.os, hB.tape, hB.output, hB.size, fun k _ hne => hB.block k (Nat.lt_of_not_le hne)⟩
    exact h.old.trans ho (fun _ h => h) (fun i hi e => by omega)
theorem Gr.push2 {w0 w : World} {b4 : Nat} {v : Value} {L : List Rl} (h : Gr w0 w b4 v L) (m : Nat) (hm : L.length = m) (hl : m ≤ 1000) (x y z : Value) (r : Rl) (h3 : R3 w (x, y, z) r) :
    ∃ v' w3, (Builtin.append_ #[43, 43] 43 #[v, .slice (some ⟨w.heap.size, 0, none⟩) 1 1]).run Tryd.prog (w.alloc (.cells #[x, y, z] 48)) = .ok v' w3 ∧
      w3.cell? ⟨b4, 1, none⟩ = some v ∧ w3.frozen? ⟨b4, 1, none⟩ = false ∧ (∃ g c, v' = .slice (some ⟨g, 0, none⟩) (m + 1) c) ∧ Gr w0 (w3.setCell ⟨b4, 1, none⟩ v') b4 v' (L ++ [r]) ∧ Only (fun j => j = b4 ∨ v.ownBlock = some j) w (w3.setCell ⟨b4, 1, none⟩ v') := by
  subst hm
  obtain ⟨i0, hi, hz0, hz1, hz2⟩ := info_parts info48
  obtain ⟨w2, hw2⟩ : ∃ w2, w.alloc (.cells #[x, y, z] 48) = w2 := ⟨_, rfl⟩
  have hw0 : Below w.heap.size w w2 := hw2 ▸ below_alloc _ _
  have hs2 : w2.heap.size = w.heap.size + 1 := by rw [← hw2, size_alloc]
  have hn2 : w2.heap[w.heap.size]? = some (.cells #[x, y, z] 48 (0, 0)) := hw2 ▸ heap_alloc_new w _
  rw [hw2]
  have h2' := h.below hw0
  obtain ⟨cs, hcl, hown, hr⟩ := h2'.own
  have hsw := h.old.size
  obtain ⟨v', w3, e1, e2, e3, e4⟩ := run_append_own (P := Tryd.prog) w2 w0.heap.size 43 43 48 i0 _ 3 72 Tryd.underlying43 hi hz0 hz1 hz2 rfl (by decide) v L.length (tri cs) hown ⟨w.heap.size, 0, none⟩ 1 1 [x, y, z] rfl
    (fun j u hj => by
      rw [addk, Nat.zero_add]
      simp only [World.cell?, hn2]
      simpa using hj) (by
      intro u hu
      simp only [List.mem_cons, List.not_mem_nil, or_false] at hu
      rcases hu with rfl | rfl | rfl
      · exact oneCell_sl h3.t.sl
      · exact oneCell_sl h3.n.sl
      · exact oneCell_sl h3.k.sl) (by unfold maxLen; omega) (by omega) (by omega)
  have hty : ∀ (g : Nat) (arr : Array Value) (t : TypeId), t ≠ 48 → w2.heap[g]? = some (.cells arr t (0, 0)) → v.ownBlock ≠ some g := fun g arr t ht hg e => by
    rcases hown.2 with ⟨r1, _⟩ | ⟨b, cap, cur, r1, _, r3, _⟩
    · rw [r1] at e; cases e
    · rw [r1] at e
      injection e with e
      have e : b = g := e
      rw [e, hg] at r3
      injection r3 with r3
      injection r3 with _ r3 _
      exact ht r3
  have hb2 := h2'.blk
  have hkeep : ∀ (g : Nat) (arr : Array Value) (t : TypeId), t ≠ 48 → w2.heap[g]? = some (.cells arr t (0, 0)) → w3.heap[g]? = some (.cells arr t (0, 0)) := fun g arr t ht hg =>
    (e3.block g (Array.getElem?_eq_some_iff.1 hg).1 (fun e => hty g arr t ht hg e.symm)).trans hg
  have hb3 := hkeep b4 _ 45 (by decide) hb2
  have hkeep2 : ∀ (g : Nat) (arr : Array Value), w2.heap[g]? = some (.cells arr 9 (0, 0)) → (w3.setCell ⟨b4, 1, none⟩ v').heap[g]? = some (.cells arr 9 (0, 0)) := fun g arr hg => by
    have h3 := hkeep g arr 9 (by decide) hg
    have hne : g ≠ b4 := by
      intro e
      rw [e, hb3] at h3
      injection h3 with h3
      injection h3 with _ h3 _
      cases h3
    rw [Below.heap_setCell _ _ _ _ (by show g ≠ b4; exact hne)]; exact h3
  have h3w : R3 w2 (x, y, z) r := ⟨h3.t.below hw0, h3.n.below hw0, h3.k.below hw0⟩
  obtain ⟨g9, c9, hv9, _⟩ := e2.form (by omega)
  have hGr : Gr w0 (w3.setCell ⟨b4, 1, none⟩ v') b4 v' (L ++ [r]) := by
    refine ⟨set_of hb3 1 v', ⟨cs ++ [(x, y, z)], by simp [hcl], ?_, fun i hi' hi2 => ?_⟩, ?_, h.lt⟩
    · rw [tri_app, List.length_append]
      exact own_onlyS (F := fun j => j = b4) e2 ((Only.refl (fun j => j = b4) w3).set (.inl rfl) 1 v') (fun g hg e => by
        have := (e2.lt g hg).1
        have := h.lt
        omega)
    · by_cases e : i < cs.length
      · have hiL : i < L.length := by omega
        have := hr i hiL e
        rw [List.getElem_append_left e, List.getElem_append_left hiL]
        exact ⟨this.t.keep hkeep2, this.n.keep hkeep2, this.k.keep hkeep2⟩
      · have e2 : i = cs.length := by simp at hi2; omega
        subst e2
        rw [List.getElem_append_right (Nat.le_refl _), List.getElem_append_right (by omega)]
        simp only [hcl, Nat.sub_self, List.getElem_singleton]
        exact ⟨h3w.t.keep hkeep2, h3w.n.keep hkeep2, h3w.k.keep hkeep2⟩
    · refine ((h2'.old).trans (Only.of_grown (S := fun i => v.ownBlock = some i) e3 (fun k hk => hk)) (fun _ h => h) (fun i hi e => ?_)).set (.inl rfl) 1 v'
      have := (hown.lt i e).1
      omega
  exact ⟨v', w3, e1, cell_of hb3 1, free_of hb3 1, ⟨g9, c9, hv9⟩, hGr, ((Only.of_below (S := fun j => j = b4 ∨ v.ownBlock = some j) hw0).trans (Only.of_grown (S := fun i => v.ownBlock = some i) e3 (fun k hk => hk)) (fun _ h => h) (fun _ _ h => .inr h)).set (.inl (.inl rfl)) 1 v'⟩
theorem Sx.push {B : Nat} {w w' : World} {N f : Nat} {c : Cn} {T : Tr} {w0 : World} {b4 : Nat} {v : Value} {L : List Rl} (h : Sx B w N f c T) (hg : Gr w0 w b4 v L) (ho : Only (fun j => j = b4 ∨ v.ownBlock = some j) w w') : Sx B w' N f c T := by
  obtain ⟨⟨F, ⟨A, M, V, h1, hf, hr⟩, h2⟩, h3⟩ := h
  obtain ⟨cs, _, how, _⟩ := hg.own
  refine ⟨⟨foot T A M V, ⟨A, M, V, h1.only ho (fun k hk hft => ?_), fun j hj => hj, hr⟩, fun j hj => ⟨(h2 j (hf j hj)).1, Nat.lt_of_lt_of_le (h2 j (hf j hj)).2 ho.size⟩⟩, Nat.le_trans h3 ho.size⟩
  rcases hk with rfl | hk
  · rcases foot_ty h1 hft hg.blk with r | r | r <;> cases r
  · rcases how.2 with ⟨r1, _⟩ | ⟨b, cap, cur, r1, _, r3, _⟩
    · rw [r1] at hk; cases hk
    · rw [r1] at hk
      injection hk with hk
      have hk : b = k := hk
      rw [hk] at r3
      rcases foot_ty h1 hft r3 with r | r | r <;> cases r
end Go.Proofs.YtjagnihkpgbjeaaDoor
