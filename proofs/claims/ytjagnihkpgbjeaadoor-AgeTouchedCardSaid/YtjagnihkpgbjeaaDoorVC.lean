import Derived.Test.YtjagnihkpgbjeaaDoorVB
namespace Go.Proofs.YtjagnihkpgbjeaaDoor
open Go.RowKit Go.Maps Go.ChangeMaps
set_option linter.unusedVariables false

def setF {α : Type} (F : Pth → α) (p : Pth) (x : α) (q : Pth) : α := if q = p then x else F q
theorem setF_same {α : Type} (F : Pth → α) (p : Pth) (x : α) : setF F p x p = x := if_pos rfl
theorem setF_other {α : Type} (F : Pth → α) {p q : Pth} (x : α) (h : q ≠ p) : setF F p x q = F q := if_neg h
def graftF {α : Type} (F : Pth → α) (p : Pth) (G : Pth → α) (q : Pth) : α := if p.isPrefixOf q = true then G (q.drop p.length) else F q
theorem graftF_in {α : Type} (F : Pth → α) (p : Pth) (G : Pth → α) (r : Pth) : graftF F p G (p ++ r) = G r := by
  have h : p.isPrefixOf (p ++ r) = true := List.isPrefixOf_iff_prefix.2 ⟨r, rfl⟩
  unfold graftF; rw [if_pos h]; simp
theorem graftF_out {α : Type} (F : Pth → α) (p : Pth) (G : Pth → α) {q : Pth} (h : ¬ p <+: q) : graftF F p G q = F q := by
  unfold graftF; rw [if_neg (fun e => h (List.isPrefixOf_iff_prefix.1 e))]
theorem graft_self {α : Type} (F : Pth → α) (p : Pth) (G : Pth → α) : graftF F p G p = G [] := by have := graftF_in F p G []; simpa using this
theorem not_pre_self (d : Pth) (k : Bz) : ¬ (d ++ [k]) <+: d := fun h => by have := h.length_le; simp at this; omega
section
variable {w w' : World} {B N f : Nat} {ty : TypeId} {tl : List Value} {T : Tr} {A : Pth → Nat} {M : Pth → Option Nat} {V : Pth → Value}
theorem TreeAt.setTl (h : TreeAt w B N f ty tl T A M V) {n0 : Nd} (h0 : T [] = some n0) (tl' : List Value) (ho : Only (fun k => k = f) w w') (hb : w'.heap[f]? = some (.cells (ndC n0 (V []) (M []) ++ tl').toArray ty (0, 0))) (hty : ty ≠ 5) :
    TreeAt w' B N f ty tl' T A M V := by
  have hs : (T []).isSome := by rw [h0]; rfl
  have hof : ∀ k, foot T A M V k → k ≠ f → w'.heap[k]? = w.heap[k]? := fun k hk hne => ho.block k (h.lt hk) hne
  refine ⟨h.a0, h.root, h.up, fun p n hp => ?_, fun p n hp => ?_, fun p n hp => ?_, h.base, h.injA, h.injM, h.injV⟩
  · cases p with
    | nil =>
      rw [h0] at hp; cases hp
      rw [h.a0]; exact hb
    | cons a p =>
      have hne : A (a :: p) ≠ f := fun e => by
        have := h.injA (a :: p) [] (by rw [hp]; rfl) hs (e.trans h.a0.symm)
        cases this
      exact (hof _ ⟨_, n, hp, .inl rfl⟩ hne).trans (h.blk _ n hp)
  · refine row_only (h.data p n hp) fun g hg _ => hof g ⟨p, n, hp, .inr (.inr hg)⟩ fun e => ?_
    exact h.neAV hty hs (by rw [hp]; rfl) hg (h.a0.trans e.symm)
  · refine (h.kids p n hp).only fun b hm _ => hof b ⟨p, n, hp, .inr (.inl hm)⟩ fun e => ?_
    exact h.neAM hs (by rw [hp]; rfl) hm (h.a0.trans e.symm)
theorem TreeAt.setNode (h : TreeAt w B N f ty tl T A M V) (hty : ty ≠ 5) {p : Pth} {n n' : Nd} (hp : T p = some n) (hf : n'.file = n.file) (v' : Value) {X : Nat → Prop} (ho : Only X w w') (hX : ∀ k, X k → k = A p ∨ (V p).ownBlock = some k)
    (hb : w'.heap[A p]? = some (.cells (ndC n' v' (M p) ++ tlOf tl p).toArray (tyOf ty p) (0, 0))) (hd : w'.ownsRow B 5 1 v' n'.data.length (u8s n'.data)) (hv : ∀ b, v'.ownBlock = some b → (V p).ownBlock = some b ∨ w.heap.size ≤ b) :
    TreeAt w' B N f ty tl (setF T p (some n')) A M (setF V p v') := by
  have hs : (T p).isSome := by rw [hp]; rfl
  have hT : ∀ q, (setF T p (some n') q).isSome = (T q).isSome := fun q => by
    by_cases e : q = p
    · rw [e, setF_same, hp]; rfl
    · rw [setF_other _ _ e]
  have hof : ∀ k, foot T A M V k → k ≠ A p → (V p).ownBlock ≠ some k → w'.heap[k]? = w.heap[k]? := fun k hk h1 h2 => ho.block k (h.lt hk) fun e => by
    rcases hX k e with e | e
    · exact h1 e
    · exact h2 e
  have hin : ∀ q m, setF T p (some n') q = some m → ∃ m0, T q = some m0 ∧ m0.file = m.file := fun q m e => by
    by_cases hq : q = p
    · subst hq; rw [setF_same] at e; cases e; exact ⟨n, hp, hf.symm⟩
    · rw [setF_other _ _ hq] at e; exact ⟨m, e, rfl⟩
  have hkk : ∀ q, kidsOf (setF T p (some n')) A q = kidsOf T A q := fun q => funext fun k => by unfold kidsOf; rw [hT]
  refine ⟨h.a0, ?_, fun q k hq => ?_, fun q m hq => ?_, fun q m hq => ?_, fun q m hq => ?_, fun q m hq => ?_, fun a b ha hb' => ?_, fun a b c ha hb' => ?_, fun a b c ha hb' h1 h2 => ?_⟩
  · obtain ⟨n0, h0⟩ := h.root
    exact Option.isSome_iff_exists.1 (by rw [hT, h0]; rfl)
  · rw [hT] at hq
    obtain ⟨m, h1, h2⟩ := h.up q k hq
    by_cases e : q = p
    · subst e; rw [hp] at h1; cases h1; exact ⟨n', setF_same _ _ _, hf.trans h2⟩
    · exact ⟨m, (setF_other _ _ e).trans h1, h2⟩
  · by_cases e : q = p
    · subst e; rw [setF_same] at hq; cases hq; rw [setF_same]; exact hb
    · rw [setF_other _ _ e] at hq
      rw [setF_other _ _ e]
      refine (hof _ ⟨q, m, hq, .inl rfl⟩ (fun e2 => e (h.injA q p (by rw [hq]; rfl) hs e2)) fun e2 => ?_).trans (h.blk q m hq)
      exact h.neAV hty (by rw [hq]; rfl) hs e2 rfl
  · by_cases e : q = p
    · subst e; rw [setF_same] at hq; cases hq; rw [setF_same]; exact hd
    · rw [setF_other _ _ e] at hq
      rw [setF_other _ _ e]
      refine row_only (h.data q m hq) fun g hg _ => hof g ⟨q, m, hq, .inr (.inr hg)⟩ (fun e2 => ?_) fun e2 => ?_
      · exact h.neAV hty hs (by rw [hq]; rfl) hg e2.symm
      · exact e (h.injV q p g (by rw [hq]; rfl) hs hg e2)
  · obtain ⟨m0, hq0, _⟩ := hin q m hq
    rw [hkk]
    refine (h.kids q m0 hq0).only fun b hm _ => hof b ⟨q, m0, hq0, .inr (.inl hm)⟩ (fun e2 => ?_) fun e2 => ?_
    · exact h.neAM hs (by rw [hq0]; rfl) hm e2.symm
    · exact h.neMV (by rw [hq0]; rfl) hs hm e2 rfl
  · obtain ⟨m0, hq0, _⟩ := hin q m hq
    exact h.base q m0 hq0
  · rw [hT] at ha hb'
    exact h.injA a b ha hb'
  · rw [hT] at ha hb'
    exact h.injM a b c ha hb'
  · rw [hT] at ha hb'
    have old : ∀ q, (T q).isSome → (V q).ownBlock = some c → c < w.heap.size := fun q hq hc => by
      obtain ⟨m, hm⟩ := Option.isSome_iff_exists.1 hq
      exact row_lt (h.data q m hm) hc
    by_cases ea : a = p
    · by_cases eb : b = p
      · rw [ea, eb]
      · rw [ea, setF_same] at h1
        rw [setF_other _ _ eb] at h2
        rcases hv c h1 with e | e
        · exact ea.trans (h.injV p b c hs hb' e h2)
        · have := old b hb' h2; omega
    · rw [setF_other _ _ ea] at h1
      by_cases eb : b = p
      · rw [eb, setF_same] at h2
        rcases hv c h2 with e | e
        · exact (h.injV a p c ha hs h1 e).trans eb.symm
        · have := old a ha h1; omega
      · rw [setF_other _ _ eb] at h2
        exact h.injV a b c ha hb' h1 h2
end
end Go.Proofs.YtjagnihkpgbjeaaDoor
