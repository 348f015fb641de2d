import Derived.Test.YtjagnihkpgbjeaaDoorVC
namespace Go.Proofs.YtjagnihkpgbjeaaDoor
open Go.RowKit Go.Maps Go.ChangeMaps
set_option linter.unusedVariables false
section
variable {w w' : World} {B N f : Nat} {ty : TypeId} {tl : List Value} {T : Tr} {A : Pth → Nat} {M : Pth → Option Nat} {V : Pth → Value}
theorem graft_snoc {α : Type} (F : Pth → α) (d : Pth) (k : Bz) (G : Pth → α) (q : Pth) (x : Bz) (hq : ¬ (d ++ [k]) <+: q) :
    graftF F (d ++ [k]) G (q ++ [x]) = if q = d ∧ x = k then G [] else F (q ++ [x]) := by
  by_cases e : q = d ∧ x = k
  · rw [if_pos e, e.1, e.2, graft_self]
  · rw [if_neg e]
    refine graftF_out _ _ _ fun h => ?_
    rcases List.prefix_concat_iff.1 h with h1 | h1
    · have h2 := List.append_inj' h1 rfl
      exact e ⟨h2.1.symm, by have := h2.2; simpa using this.symm⟩
    · exact hq h1
theorem pre_cases (p q : Pth) : (∃ r, q = p ++ r) ∨ ¬ p <+: q := by
  by_cases h : p <+: q
  · obtain ⟨r, hr⟩ := h; exact .inl ⟨r, hr.symm⟩
  · exact .inr h
theorem TreeAt.graft (h : TreeAt w B N f ty tl T A M V) {c N2 : Nat} {T2 : Tr} {A2 : Pth → Nat} {M2 : Pth → Option Nat} {V2 : Pth → Value} (h2 : TreeAt w B N2 c 69 [] T2 A2 M2 V2) (hN2 : N2 ≤ N + 1) (hty : ty ≠ 5)
    {d : Pth} {k : Bz} {dn : Nd} (hd : T d = some dn) (hdf : dn.file = false) (hdis : ∀ j, foot T A M V j → ¬ foot T2 A2 M2 V2 j)
    {X : Nat → Prop} (ho : Only X w w') (hX : ∀ j, X j → j = A d ∨ M d = some j) (m' : Option Nat) (hblk : w'.heap[A d]? = some (.cells (ndC dn (V d) m' ++ tlOf tl d).toArray (tyOf ty d) (0, 0)))
    (hk : Kids w' (N + 1) m' (fun x => if x = k then some c else kidsOf T A d x)) (hm : m' = M d ∨ ∀ b, m' = some b → w.heap.size ≤ b) (hmB : ∀ b, m' = some b → B ≤ b) :
    TreeAt w' B (N + 1) f ty tl (graftF T (d ++ [k]) T2) (graftF A (d ++ [k]) A2) (graftF (setF M d m') (d ++ [k]) M2) (graftF V (d ++ [k]) V2) := by
  have hds : (T d).isSome := by rw [hd]; rfl
  have hnd : ¬ (d ++ [k]) <+: d := not_pre_self d k
  have hfd : foot T A M V (A d) := ⟨d, dn, hd, .inl rfl⟩
  have hXf : ∀ j, X j → foot T A M V j := fun j hj => by
    rcases hX j hj with e | e
    · exact ⟨d, dn, hd, .inl e.symm⟩
    · exact ⟨d, dn, hd, .inr (.inl e)⟩
  have h2' : TreeAt w' B N2 c 69 [] T2 A2 M2 V2 := h2.only ho fun j hj e => hdis j (hXf j hj) e
  have hof : ∀ j, foot T A M V j → j ≠ A d → M d ≠ some j → w'.heap[j]? = w.heap[j]? := fun j hj h1 h3 => ho.block j (h.lt hj) fun e => by
    rcases hX j e with e | e
    · exact h1 e
    · exact h3 e
  have hko : ∀ q, ¬ (d ++ [k]) <+: q → q ≠ d → kidsOf (graftF T (d ++ [k]) T2) (graftF A (d ++ [k]) A2) q = kidsOf T A q := fun q hq hqd => funext fun x => by
    unfold kidsOf
    have hne : ¬ (q = d ∧ x = k) := fun e => hqd e.1
    simp only [graft_snoc _ _ _ _ _ _ hq, hne, if_false]
  have hki : ∀ r, kidsOf (graftF T (d ++ [k]) T2) (graftF A (d ++ [k]) A2) (d ++ [k] ++ r) = kidsOf T2 A2 r := fun r => funext fun x => by
    unfold kidsOf
    rw [List.append_assoc (d ++ [k]), graftF_in, graftF_in]
  obtain ⟨n2, hr2⟩ := h2.root
  have hkd : ∀ x, kidsOf (graftF T (d ++ [k]) T2) (graftF A (d ++ [k]) A2) d x = if x = k then some c else kidsOf T A d x := fun x => by
    unfold kidsOf
    simp only [graft_snoc _ _ _ _ _ _ hnd]
    by_cases e : x = k
    · simp [e, hr2, h2.a0]
    · simp [e]
  have f2 : ∀ {r : Pth} {j : Nat}, (T2 r).isSome → (A2 r = j ∨ M2 r = some j ∨ (V2 r).ownBlock = some j) → foot T2 A2 M2 V2 j := fun {r j} hr e => by
    obtain ⟨n, hn⟩ := Option.isSome_iff_exists.1 hr
    exact ⟨r, n, hn, e⟩
  have f1 : ∀ {r : Pth} {j : Nat}, (T r).isSome → (A r = j ∨ M r = some j ∨ (V r).ownBlock = some j) → foot T A M V j := fun {r j} hr e => by
    obtain ⟨n, hn⟩ := Option.isSome_iff_exists.1 hr
    exact ⟨r, n, hn, e⟩
  refine ⟨?_, ?_, fun q x hq => ?_, fun q m hq => ?_, fun q m hq => ?_, fun q m hq => ?_, fun q m hq => ?_, fun a b ha hb => ?_, fun a b j ha hb h3 h4 => ?_, fun a b j ha hb h3 h4 => ?_⟩
  · rw [graftF_out _ _ _ (fun e => by have := e.length_le; simp at this)]
    exact h.a0
  · rw [graftF_out _ _ _ (fun e => by have := e.length_le; simp at this)]
    exact h.root
  · rcases pre_cases (d ++ [k]) q with ⟨r, rfl⟩ | hn
    · rw [List.append_assoc (d ++ [k]), graftF_in] at hq
      rw [graftF_in]
      exact h2.up r x hq
    · rw [graft_snoc _ _ _ _ _ _ hn] at hq
      rw [graftF_out _ _ _ hn]
      by_cases e : q = d ∧ x = k
      · rw [e.1]; exact ⟨dn, hd, hdf⟩
      · rw [if_neg e] at hq
        exact h.up q x hq
  · rcases pre_cases (d ++ [k]) q with ⟨r, rfl⟩ | hn
    · rw [graftF_in] at hq
      rw [graftF_in, graftF_in, graftF_in]
      have h5 := h2'.blk r m hq
      have e1 : tlOf tl (d ++ [k] ++ r) = tlOf [] r := by cases d <;> cases r <;> rfl
      have e2 : tyOf ty (d ++ [k] ++ r) = tyOf 69 r := by cases d <;> cases r <;> rfl
      rw [e1, e2]; exact h5
    · rw [graftF_out _ _ _ hn] at hq
      rw [graftF_out _ _ _ hn, graftF_out _ _ _ hn, graftF_out _ _ _ hn]
      by_cases e : q = d
      · subst e
        rw [hd] at hq; cases hq
        rw [setF_same]; exact hblk
      · rw [setF_other _ _ e]
        refine (hof _ ⟨q, m, hq, .inl rfl⟩ (fun e2 => e (h.injA q d (by rw [hq]; rfl) hds e2)) fun e2 => ?_).trans (h.blk q m hq)
        exact h.neAM (by rw [hq]; rfl) hds e2 rfl
  · rcases pre_cases (d ++ [k]) q with ⟨r, rfl⟩ | hn
    · rw [graftF_in] at hq
      rw [graftF_in]
      exact h2'.data r m hq
    · rw [graftF_out _ _ _ hn] at hq
      rw [graftF_out _ _ _ hn]
      refine row_only (h.data q m hq) fun g hg _ => hof g ⟨q, m, hq, .inr (.inr hg)⟩ (fun e2 => ?_) fun e2 => ?_
      · exact h.neAV hty hds (by rw [hq]; rfl) hg e2.symm
      · exact h.neMV hds (by rw [hq]; rfl) e2 hg rfl
  · rcases pre_cases (d ++ [k]) q with ⟨r, rfl⟩ | hn
    · rw [graftF_in] at hq
      rw [graftF_in, hki]
      exact (h2'.kids r m hq).mono hN2
    · rw [graftF_out _ _ _ hn] at hq
      rw [graftF_out _ _ _ hn]
      by_cases e : q = d
      · subst e
        rw [setF_same]
        exact hk.congr hkd
      · rw [setF_other _ _ e, hko q hn e]
        refine ((h.kids q m hq).only fun b hb _ => hof b ⟨q, m, hq, .inr (.inl hb)⟩ (fun e2 => ?_) fun e2 => ?_).mono (Nat.le_succ N)
        · exact h.neAM hds (by rw [hq]; rfl) hb e2.symm
        · exact e (h.injM q d b (by rw [hq]; rfl) hds hb e2)
  · rcases pre_cases (d ++ [k]) q with ⟨r, rfl⟩ | hn
    · rw [graftF_in] at hq
      rw [graftF_in, graftF_in]
      exact h2.base r m hq
    · rw [graftF_out _ _ _ hn] at hq
      rw [graftF_out _ _ _ hn, graftF_out _ _ _ hn]
      refine ⟨(h.base q m hq).1, fun b hb => ?_⟩
      by_cases e : q = d
      · rw [e, setF_same] at hb; exact hmB b hb
      · rw [setF_other _ _ e] at hb; exact (h.base q m hq).2 b hb
  · rcases pre_cases (d ++ [k]) a with ⟨r, rfl⟩ | ea
    · rw [graftF_in] at ha ⊢
      rcases pre_cases (d ++ [k]) b with ⟨s, rfl⟩ | eb
      · rw [graftF_in] at hb ⊢
        intro e
        rw [h2.injA r s ha hb e]
      · rw [graftF_out _ _ _ eb] at hb ⊢
        intro e
        exact absurd (f2 ha (.inl e)) (hdis _ (f1 hb (.inl rfl)))
    · rw [graftF_out _ _ _ ea] at ha ⊢
      rcases pre_cases (d ++ [k]) b with ⟨s, rfl⟩ | eb
      · rw [graftF_in] at hb ⊢
        intro e
        exact absurd (f2 hb (.inl rfl)) (hdis _ (f1 ha (.inl e)))
      · rw [graftF_out _ _ _ eb] at hb ⊢
        exact h.injA a b ha hb
  · have key : ∀ q, (T q).isSome → setF M d m' q = some j → ¬ foot T2 A2 M2 V2 j := fun q hq e => by
      by_cases eq : q = d
      · rw [eq, setF_same] at e
        rcases hm with e2 | e2
        · exact hdis j (f1 hds (.inr (.inl (e2.symm.trans e))))
        · intro hf2
          have := h2.lt hf2
          have := e2 j e
          omega
      · rw [setF_other _ _ eq] at e
        exact hdis j (f1 hq (.inr (.inl e)))
    rcases pre_cases (d ++ [k]) a with ⟨r, rfl⟩ | ea
    · rw [graftF_in] at ha h3
      rcases pre_cases (d ++ [k]) b with ⟨s, rfl⟩ | eb
      · rw [graftF_in] at hb h4
        rw [h2.injM r s j ha hb h3 h4]
      · rw [graftF_out _ _ _ eb] at hb h4
        exact absurd (f2 ha (.inr (.inl h3))) (key b hb h4)
    · rw [graftF_out _ _ _ ea] at ha h3
      rcases pre_cases (d ++ [k]) b with ⟨s, rfl⟩ | eb
      · rw [graftF_in] at hb h4
        exact absurd (f2 hb (.inr (.inl h4))) (key a ha h3)
      · rw [graftF_out _ _ _ eb] at hb h4
        have one : ∀ q, (T q).isSome → q ≠ d → M q = some j → setF M d m' d = some j → False := fun q hq e1 e2 e3 => by
          rw [setF_same] at e3
          rcases hm with e4 | e4
          · exact e1 (h.injM q d j hq hds e2 (e4.symm.trans e3))
          · have := e4 j e3
            have := h.lt (f1 hq (.inr (.inl e2)))
            omega
        by_cases e1 : a = d
        · by_cases e2 : b = d
          · rw [e1, e2]
          · rw [setF_other _ _ e2] at h4
            rw [e1] at h3
            exact (one b hb e2 h4 h3).elim
        · by_cases e2 : b = d
          · rw [setF_other _ _ e1] at h3
            rw [e2] at h4
            exact (one a ha e1 h3 h4).elim
          · rw [setF_other _ _ e1] at h3
            rw [setF_other _ _ e2] at h4
            exact h.injM a b j ha hb h3 h4
  · rcases pre_cases (d ++ [k]) a with ⟨r, rfl⟩ | ea
    · rw [graftF_in] at ha h3
      rcases pre_cases (d ++ [k]) b with ⟨s, rfl⟩ | eb
      · rw [graftF_in] at hb h4
        rw [h2.injV r s j ha hb h3 h4]
      · rw [graftF_out _ _ _ eb] at hb h4
        exact absurd (f2 ha (.inr (.inr h3))) (hdis _ (f1 hb (.inr (.inr h4))))
    · rw [graftF_out _ _ _ ea] at ha h3
      rcases pre_cases (d ++ [k]) b with ⟨s, rfl⟩ | eb
      · rw [graftF_in] at hb h4
        exact absurd (f2 hb (.inr (.inr h4))) (hdis _ (f1 ha (.inr (.inr h3))))
      · rw [graftF_out _ _ _ eb] at hb h4
        exact h.injV a b j ha hb h3 h4
/-- A node by itself. -/
theorem TreeAt.leaf {n : Nd} {c : Nat} {v : Value} (hb : w.heap[c]? = some (.cells (ndC n v none).toArray 69 (0, 0))) (hd : w.ownsRow B 5 1 v n.data.length (u8s n.data)) (hB : B ≤ c) :
    TreeAt w B N c 69 [] (fun q => if q = [] then some n else none) (fun _ => c) (fun _ => none) (fun _ => v) := by
  have e0 : ∀ {p : Pth} {m : Nd}, (if p = [] then some n else none) = some m → p = [] ∧ m = n := fun {p m} h => by
    by_cases e : p = []
    · rw [if_pos e] at h; cases h; exact ⟨e, rfl⟩
    · rw [if_neg e] at h; cases h
  have e1 : ∀ {p : Pth}, (if p = [] then some n else none).isSome = true → p = [] := fun {p} h => by
    by_cases e : p = []
    · exact e
    · rw [if_neg e] at h; cases h
  refine ⟨rfl, ⟨n, if_pos rfl⟩, fun p k h => absurd (e1 h) (by simp), fun p m h => ?_, fun p m h => ?_, fun p m h => ⟨fun _ k => ?_, fun b e => (nomatch e)⟩, fun p m h => ⟨hB, fun b e => (nomatch e)⟩, fun p q hp hq _ => ?_, fun p q b hp hq e => (nomatch e), fun p q b hp hq _ _ => ?_⟩
  · obtain ⟨rfl, rfl⟩ := e0 h; simpa [tlOf, tyOf] using hb
  · obtain ⟨rfl, rfl⟩ := e0 h; exact hd
  · unfold kidsOf; rw [if_neg (by simp)]
  · rw [e1 hp, e1 hq]
  · rw [e1 hp, e1 hq]
end
end Go.Proofs.YtjagnihkpgbjeaaDoor
