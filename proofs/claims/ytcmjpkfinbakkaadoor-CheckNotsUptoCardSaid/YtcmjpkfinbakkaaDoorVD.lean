import Derived.Test.YtcmjpkfinbakkaaDoorXR
import Derived.RegionTactic
import Derived.Deep.QuietTactic
import Derived.Deep.LoopGhost
import Derived.BigQuiet
import Derived.WalkMore
import Derived.Handy
import Derived.BigFrame
import Derived.ChangeArms
import Derived.Carry
import Derived.Test.YtcmjpkfinbakkaaDoorA
namespace Go.Proofs.YtcmjpkfinbakkaaDoor
open Go.RowKit Go.Maps Go.ChangeMaps
set_option linter.unusedVariables false
section
variable {w w' : World} {B N f : Nat} {ty : TypeId} {tl : List Value} {T : Tr} {A : Pth → Nat} {M : Pth → Option Nat} {V : Pth → Value}
theorem graft_snoc {α : Type} (F : Pth → α) (d : Pth) (k : Bz) (G : Pth → α) (q : Pth) (x : Bz) (hq : ¬ (d ++ [k]) <+: q) :
    graftF F (d ++ [k]) G (q ++ [x]) = if q = d ∧ x = k then G [] else F (q ++ [x]) := by
  by_cases e : q = d ∧ x = k
  · rw [if_pos e, e.1, e.2, graft_self]
  · rw [if_neg e]
    refine graftF_out _ _ _ fun h => ?_
    rcases List.prefix_concat_iff.1 h with h1 | h1
    · have h2 := List.append_inj' h1 rfl
      exact e ⟨h2.1.symm, by have := h2.2; simpa using this.symm⟩
    · exact hq h1
theorem pre_cases (p q : Pth) : (∃ r, q = p ++ r) ∨ ¬ p <+: q := by
  by_cases h : p <+: q
  · obtain ⟨r, hr⟩ := h; exact .inl ⟨r, hr.symm⟩
  · exact .inr h
theorem TreeAt.graft (h : TreeAt w B N f ty tl T A M V) {c N2 : Nat} {T2 : Tr} {A2 : Pth → Nat} {M2 : Pth → Option Nat} {V2 : Pth → Value} (h2 : TreeAt w B N2 c 45 [] T2 A2 M2 V2) (hN2 : N2 ≤ N + 1) (hty : ty ≠ 5)
    {d : Pth} {k : Bz} {dn : Nd} (hd : T d = some dn) (hdf : dn.file = false) (hdis : ∀ j, foot T A M V j → ¬ foot T2 A2 M2 V2 j)
    {X : Nat → Prop} (ho : Only X w w') (hX : ∀ j, X j → j = A d ∨ M d = some j) (m' : Option Nat) (hblk : w'.heap[A d]? = some (.cells (ndC dn (V d) m' ++ tlOf tl d).toArray (tyOf ty d) (0, 0)))
    (hk : Kids w' (N + 1) m' (fun x => if x = k then some c else kidsOf T A d x)) (hm : m' = M d ∨ ∀ b, m' = some b → w.heap.size ≤ b) (hmB : ∀ b, m' = some b → B ≤ b) :
    TreeAt w' B (N + 1) f ty tl (graftF T (d ++ [k]) T2) (graftF A (d ++ [k]) A2) (graftF (setF M d m') (d ++ [k]) M2) (graftF V (d ++ [k]) V2) := by
  have hds : (T d).isSome := by rw [hd]; rfl
  have hnd : ¬ (d ++ [k]) <+: d := not_pre_self d k
  have hfd : foot T A M V (A d) := ⟨d, dn, hd, .inl rfl⟩
  have hXf : ∀ j, X j → foot T A M V j := fun j hj => by
    rcases hX j hj with e | e
    · exact ⟨d, dn, hd, .inl e.symm⟩
    · exact ⟨d, dn, hd, .inr (.inl e)⟩
  have h2' : TreeAt w' B N2 c 45 [] T2 A2 M2 V2 := h2.only ho fun j hj e => hdis j (hXf j hj) e
  have hof : ∀ j, foot T A M V j → j ≠ A d → M d ≠ some j → w'.heap[j]? = w.heap[j]? := fun j hj h1 h3 => ho.block j (h.lt hj) fun e => by
    rcases hX j e with e | e
    · exact h1 e
    · exact h3 e
  have hko : ∀ q, ¬ (d ++ [k]) <+: q → q ≠ d → kidsOf (graftF T (d ++ [k]) T2) (graftF A (d ++ [k]) A2) q = kidsOf T A q := fun q hq hqd => funext fun x => by
    unfold kidsOf
    have hne : ¬ (q = d ∧ x = k) := fun e => hqd e.1
    simp only [graft_snoc _ _ _ _ _ _ hq, hne, if_false]
  have hki : ∀ r, kidsOf (graftF T (d ++ [k]) T2) (graftF A (d ++ [k]) A2) (d ++ [k] ++ r) = kidsOf T2 A2 r := fun r => funext fun x => by
    unfold kidsOf
    rw [List.append_assoc (d ++ [k]), graftF_in, graftF_in]
  obtain ⟨n2, hr2⟩ := h2.root
  have hkd : ∀ x, kidsOf (graftF T (d ++ [k]) T2) (graftF A (d ++ [k]) A2) d x = if x = k then some c else kidsOf T A d x := fun x => by
    unfold kidsOf
    simp only [graft_snoc _ _ _ _ _ _ hnd]
    by_cases e : x = k
    · simp [e, hr2, h2.a0]
    · simp [e]
  have f2 : ∀ {r : Pth} {j : Nat}, (T2 r).isSome → (A2 r = j ∨ M2 r = some j ∨ (V2 r).ownBlock = some j) → foot T2 A2 M2 V2 j := fun {r j} hr e => by
    obtain ⟨n, hn⟩ := Option.isSome_iff_exists.1 hr
    exact ⟨r, n, hn, e⟩
  have f1 : ∀ {r : Pth} {j : Nat}, (T r).isSome → (A r = j ∨ M r = some j ∨ (V r).ownBlock = some j) → foot T A M V j := fun {r j} hr e => by
    obtain ⟨n, hn⟩ := Option.isSome_iff_exists.1 hr
    exact ⟨r, n, hn, e⟩
  refine ⟨?_, ?_, fun q x hq => ?_, fun q m hq => ?_, fun q m hq => ?_, fun q m hq => ?_, fun q m hq => ?_, fun a b ha hb => ?_, fun a b j ha hb h3 h4 => ?_, fun a b j ha hb h3 h4 => ?_⟩
  · rw [graftF_out _ _ _ (fun e => by have := e.length_le; simp at this)]
    exact h.a0
  · rw [graftF_out _ _ _ (fun e => by have := e.length_le; simp at this)]
    exact h.root
  · rcases pre_cases (d ++ [k]) q with ⟨r, rfl⟩ | hn
    · rw [List.append_assoc (d ++ [k]), graftF_in] at hq
      rw [graftF_in]
      exact h2.up r x hq
    · rw [graft_snoc _ _ _ _ _ _ hn] at hq
      rw [graftF_out _ _ _ hn]
      by_cases e : q = d ∧ x = k
      · rw [e.1]; exact ⟨dn, hd, hdf⟩
      · rw [if_neg e] at hq
        exact h.up q x hq
  · rcases pre_cases (d ++ [k]) q with ⟨r, rfl⟩ | hn
    · rw [graftF_in] at hq
      rw [graftF_in, graftF_in, graftF_in]
      have h5 := h2'.blk r m hq
      have e1 : tlOf tl (d ++ [k] ++ r) = tlOf [] r := by cases d <;> cases r <;> rfl
      have e2 : tyOf ty (d ++ [k] ++ r) = tyOf 45 r := by cases d <;> cases r <;> rfl
      rw [e1, e2]; exact h5
    · rw [graftF_out _ _ _ hn] at hq
      rw [graftF_out _ _ _ hn, graftF_out _ _ _ hn, graftF_out _ _ _ hn]
      by_cases e : q = d
      · subst e
        rw [hd] at hq; cases hq
        rw [setF_same]; exact hblk
      · rw [setF_other _ _ e]
        refine (hof _ ⟨q, m, hq, .inl rfl⟩ (fun e2 => e (h.injA q d (by rw [hq]; rfl) hds e2)) fun e2 => ?_).trans (h.blk q m hq)
        exact h.neAM (by rw [hq]; rfl) hds e2 rfl
  · rcases pre_cases (d ++ [k]) q with ⟨r, rfl⟩ | hn
    · rw [graftF_in] at hq
      rw [graftF_in]
      exact h2'.data r m hq
    · rw [graftF_out _ _ _ hn] at hq
      rw [graftF_out _ _ _ hn]
      refine row_only (h.data q m hq) fun g hg _ => hof g ⟨q, m, hq, .inr (.inr hg)⟩ (fun e2 => ?_) fun e2 => ?_
      · exact h.neAV hty hds (by rw [hq]; rfl) hg e2.symm
      · exact h.neMV hds (by rw [hq]; rfl) e2 hg rfl
  · rcases pre_cases (d ++ [k]) q with ⟨r, rfl⟩ | hn
    · rw [graftF_in] at hq
      rw [graftF_in, hki]
      exact (h2'.kids r m hq).mono hN2
    · rw [graftF_out _ _ _ hn] at hq
      rw [graftF_out _ _ _ hn]
      by_cases e : q = d
      · subst e
        rw [setF_same]
        exact hk.congr hkd
      · rw [setF_other _ _ e, hko q hn e]
        refine ((h.kids q m hq).only fun b hb _ => hof b ⟨q, m, hq, .inr (.inl hb)⟩ (fun e2 => ?_) fun e2 => ?_).mono (Nat.le_succ N)
        · exact h.neAM hds (by rw [hq]; rfl) hb e2.symm
        · exact e (h.injM q d b (by rw [hq]; rfl) hds hb e2)
  · rcases pre_cases (d ++ [k]) q with ⟨r, rfl⟩ | hn
    · rw [graftF_in] at hq
      rw [graftF_in, graftF_in]
      exact h2.base r m hq
    · rw [graftF_out _ _ _ hn] at hq
      rw [graftF_out _ _ _ hn, graftF_out _ _ _ hn]
      refine ⟨(h.base q m hq).1, fun b hb => ?_⟩
      by_cases e : q = d
      · rw [e, setF_same] at hb; exact hmB b hb
      · rw [setF_other _ _ e] at hb; exact (h.base q m hq).2 b hb
  · rcases pre_cases (d ++ [k]) a with ⟨r, rfl⟩ | ea
    · rw [graftF_in] at ha ⊢
      rcases pre_cases (d ++ [k]) b with ⟨s, rfl⟩ | eb
      · rw [graftF_in] at hb ⊢
        intro e
        rw [h2.injA r s ha hb e]
      · rw [graftF_out _ _ _ eb] at hb ⊢
        intro e
        exact absurd (f2 ha (.inl e)) (hdis _ (f1 hb (.inl rfl)))
    · rw [graftF_out _ _ _ ea] at ha ⊢
      rcases pre_cases (d ++ [k]) b with ⟨s, rfl⟩ | eb
      · rw [graftF_in] at hb ⊢
        intro e
        exact absurd (f2 hb (.inl rfl)) (hdis _ (f1 ha (.inl e)))
      · rw [graftF_out _ _ _ eb] at hb ⊢
        exact h.injA a b ha hb
  · have key : ∀ q, (T q).isSome → setF M d m' q = some j → ¬ foot T2 A2 M2 V2 j := fun q hq e => by
      by_cases eq : q = d
      · rw [eq, setF_same] at e
        rcases hm with e2 | e2
        · exact hdis j (f1 hds (.inr (.inl (e2.symm.trans e))))
        · intro hf2
          have := h2.lt hf2
          have := e2 j e
          omega
      · rw [setF_other _ _ eq] at e
        exact hdis j (f1 hq (.inr (.inl e)))
    rcases pre_cases (d ++ [k]) a with ⟨r, rfl⟩ | ea
    · rw [graftF_in] at ha h3
      rcases pre_cases (d ++ [k]) b with ⟨s, rfl⟩ | eb
      · rw [graftF_in] at hb h4
        rw [h2.injM r s j ha hb h3 h4]
      · rw [graftF_out _ _ _ eb] at hb h4
        exact absurd (f2 ha (.inr (.inl h3))) (key b hb h4)
    · rw [graftF_out _ _ _ ea] at ha h3
      rcases pre_cases (d ++ [k]) b with ⟨s, rfl⟩ | eb
      · rw [graftF_in] at hb h4
        exact absurd (f2 hb (.inr (.inl h4))) (key a ha h3)
      · rw [graftF_out _ _ _ eb] at hb h4
        have one : ∀ q, (T q).isSome → q ≠ d → M q = some j → setF M d m' d = some j → False := fun q hq e1 e2 e3 => by
          rw [setF_same] at e3
          rcases hm with e4 | e4
          · exact e1 (h.injM q d j hq hds e2 (e4.symm.trans e3))
          · have := e4 j e3
            have := h.lt (f1 hq (.inr (.inl e2)))
            omega
        by_cases e1 : a = d
        · by_cases e2 : b = d
          · rw [e1, e2]
          · rw [setF_other _ _ e2] at h4
            rw [e1] at h3
            exact (one b hb e2 h4 h3).elim
        · by_cases e2 : b = d
          · rw [setF_other _ _ e1] at h3
            rw [e2] at h4
            exact (one a ha e1 h3 h4).elim
          · rw [setF_other _ _ e1] at h3
            rw [setF_other _ _ e2] at h4
            exact h.injM a b j ha hb h3 h4
  · rcases pre_cases (d ++ [k]) a with ⟨r, rfl⟩ | ea
    · rw [graftF_in] at ha h3
      rcases pre_cases (d ++ [k]) b with ⟨s, rfl⟩ | eb
      · rw [graftF_in] at hb h4
        rw [h2.injV r s j ha hb h3 h4]
      · rw [graftF_out _ _ _ eb] at hb h4
        exact absurd (f2 ha (.inr (.inr h3))) (hdis _ (f1 hb (.inr (.inr h4))))
    · rw [graftF_out _ _ _ ea] at ha h3
      rcases pre_cases (d ++ [k]) b with ⟨s, rfl⟩ | eb
      · rw [graftF_in] at hb h4
        exact absurd (f2 hb (.inr (.inr h4))) (hdis _ (f1 ha (.inr (.inr h3))))
      · rw [graftF_out _ _ _ eb] at hb h4
        exact h.injV a b j ha hb h3 h4
/-- A node by itself. -/
theorem TreeAt.leaf {n : Nd} {c : Nat} {v : Value} (hb : w.heap[c]? = some (.cells (ndC n v none).toArray 45 (0, 0))) (hd : w.ownsRow B 5 1 v n.data.length (u8s n.data)) (hB : B ≤ c) :
    TreeAt w B N c 45 [] (fun q => if q = [] then some n else none) (fun _ => c) (fun _ => none) (fun _ => v) := by
  have e0 : ∀ {p : Pth} {m : Nd}, (if p = [] then some n else none) = some m → p = [] ∧ m = n := fun {p m} h => by
    by_cases e : p = []
    · rw [if_pos e] at h; cases h; exact ⟨e, rfl⟩
    · rw [if_neg e] at h; cases h
  have e1 : ∀ {p : Pth}, (if p = [] then some n else none).isSome = true → p = [] := fun {p} h => by
    by_cases e : p = []
    · exact e
    · rw [if_neg e] at h; cases h
  refine ⟨rfl, ⟨n, if_pos rfl⟩, fun p k h => absurd (e1 h) (by simp), fun p m h => ?_, fun p m h => ?_, fun p m h => ⟨fun _ k => ?_, fun b e => (nomatch e)⟩, fun p m h => ⟨hB, fun b e => (nomatch e)⟩, fun p q hp hq _ => ?_, fun p q b hp hq e => (nomatch e), fun p q b hp hq _ _ => ?_⟩
  · obtain ⟨rfl, rfl⟩ := e0 h; simpa [tlOf, tyOf] using hb
  · obtain ⟨rfl, rfl⟩ := e0 h; exact hd
  · unfold kidsOf; rw [if_neg (by simp)]
  · rw [e1 hp, e1 hq]
  · rw [e1 hp, e1 hq]
end
end Go.Proofs.YtcmjpkfinbakkaaDoor

namespace Go.Proofs.YtcmjpkfinbakkaaDoor
open Go.RowKit Go.Maps Go.ChangeMaps
set_option linter.unusedVariables false
section
variable {w : World} {a : Nat} {cs : List Value} {ty : TypeId}
theorem cell_of (hb : w.heap[a]? = some (.cells cs.toArray ty (0, 0))) (i : Nat) : w.cell? ⟨a, i, none⟩ = cs[i]? := by
  simp only [World.cell?, hb]; simp
theorem free_of (hb : w.heap[a]? = some (.cells cs.toArray ty (0, 0))) (i : Nat) : w.frozen? ⟨a, i, none⟩ = false := by
  simp [World.frozen?, hb]
theorem set_of (hb : w.heap[a]? = some (.cells cs.toArray ty (0, 0))) (i : Nat) (v : Value) : (w.setCell ⟨a, i, none⟩ v).heap[a]? = some (.cells (cs.set i v).toArray ty (0, 0)) := by
  have h1 : (w.heap.modify a fun | .cells c elem frozen => Obj.cells (if (none : Option Nat).isSome then c else c.setIfInBounds i v) elem frozen | o => o)[a]? = some (.cells (cs.set i v).toArray ty (0, 0)) := by
    rw [Array.getElem?_modify, if_pos rfl, hb]; simp
  exact h1
theorem blk_lt (hb : w.heap[a]? = some (.cells cs.toArray ty (0, 0))) : a < w.heap.size := (Array.getElem?_eq_some_iff.1 hb).1
end
@[go_sem] theorem eqlMap45 (m : Option Nat) (w : World) : (binOp .eql 43 (.map m) (.map none)).run Tryd.prog w = .ok (.bool m.isNone) w := run_eql_map_nil w 43 9 48 m Tryd.underlying43
theorem addK (b k : Nat) : (⟨b, 0, none⟩ : Addr).add k = ⟨b, k, none⟩ := by unfold Addr.add; split <;> simp_all
def PutP (a kb N : Nat) (cs : List Value) (ty : TypeId) (m : Option Nat) (g : Bz → Option Nat) (s : ByteArray) (w : World) (e : Ending) (w' : World) : Prop :=
  e = .returned (.tuple #[]) ∧ ∃ m', w'.heap[a]? = some (.cells (cs.set 3 (.map m')).toArray ty (0, 0)) ∧ Kids w' (N + 1) m' (fun x => if x = s.data.toList then some kb else g x) ∧ Only (fun j => j = a ∨ m = some j) w w' ∧ ((m' = m ∧ m.isSome) ∨ (m = none ∧ m' = some w.heap.size))
set_option maxRecDepth 100000 in
set_option maxHeartbeats 2000000 in
theorem put_any (a kb N : Nat) (cs : List Value) (ty : TypeId) (m : Option Nat) (g : Bz → Option Nat) (s : ByteArray) (w : World) (hb : w.heap[a]? = some (.cells cs.toArray ty (0, 0))) (hc : cs[3]? = some (.map m)) (hk : Kids w N m g) (hs : s.size ≤ maxLen) (hN : N < maxLen) :
    Calls Tryd.prog 35 #[.pointer (some ⟨a, 0, none⟩), .string s, .pointer (some ⟨kb, 0, none⟩)] w (PutP a kb N cs ty m g s w) := by
  have hkey := Go.WideMaps.keyOf_string_mk Tryd.underlying9 hs
  have hval : ptrR (.pointer (some ⟨kb, 0, none⟩)) = some (.lit (.int .i64 kb), []) := rfl
  have HB := Lib.hid hb
  have HK := Lib.hid hk
  have hcell : w.cell? ⟨a, 3, none⟩ = some (.map m) := (cell_of hb 3).trans hc
  have hfree := free_of hb 3
  obtain ⟨Q', hQ⟩ : ∃ Q', PutP a kb N cs ty m g s w = Q' := ⟨_, rfl⟩
  rw [hQ]
  have HQ := Lib.hid hQ
  have HC := Lib.hid hc
  clear hb hk hQ hc
  cases m with
  | none =>
    have hmm := @run_makeMap Tryd.prog
    obtain ⟨hmade, hg0⟩ := kids_made w N g (fun k => HK.out.no rfl k)
    have HG := Lib.hid hg0
    have hlt := blk_lt HB.out
    have hne : w.heap.size ≠ a := by omega
    obtain ⟨w0, hw0⟩ : ∃ w0, (w.setCell ⟨a, 3, none⟩ (.map (some w.heap.size))).alloc (.map #[] 0) = w0 := ⟨_, rfl⟩
    have hown1 : w0.ownsMap Tryd.prog 9 ptrR w.heap.size 0 (.map []) := by
      have := World.ownsMap_made (w.setCell ⟨a, 3, none⟩ (.map (some w.heap.size))) Tryd.prog 9 ptrR
      rw [hw0] at this
      simpa using this
    have hb0 : Hid (w0.heap[a]? = some (.cells (cs.set 3 (.map (some w.heap.size))).toArray ty (0, 0))) := by
      show w0.heap[a]? = _
      rw [← hw0, (MapKept.heap_alloc _ _).2 a (by simpa using hlt)]
      exact set_of HB.out 3 _
    have ho0 : Hid (Only (fun j => j = a) w w0) := by
      show Only (fun j => j = a) w w0
      rw [← hw0]
      exact ((Only.refl (fun j => j = a) w).set (.inl rfl) 3 _).trans (Only.of_grown (S := fun j => j = a) (World.grownBy_alloc _ _ none) (fun k e => by cases e)) (fun _ h => h) (fun _ _ h => h)
    have HW := Lib.hid hw0
    clear hmade hg0 hw0
    go_enter Tryd.func35, Tryd.ntmps35
    go_wp2_with (at_mapUpdate; rw [HW.out]; refine wpList_mapUpdate_own _ rfl _ _ _ 43 rfl 9 48 keyedS Tryd.underlying43 _ w.heap.size 0 (.map []) rfl hown1 (by omega) _ _ (.string s.data.toList) rfl rfl hkey (.lit (.int .i64 kb)) [] hval ?_; intro w1 h1 g1)
    go_end0
    rw [← HQ.out]
    refine ⟨rfl, some w.heap.size, (g1.block a (blk_lt hb0.out) (by simpa using hne.symm)).trans hb0.out, Kids.of_put h1 (by omega) ⟨_, rfl⟩ HG.out (fun x => rfl), ?_, .inr ⟨rfl, rfl⟩⟩
    exact (ho0.out.trans (Only.of_grown g1 (S := fun j => j = w.heap.size) (fun k e => by cases e; rfl)) (fun i h => .inl h) (fun i hi h => by omega))
  | some b =>
    obtain ⟨nn, D, hnn, hown1, hg0⟩ := HK.out.yes b rfl
    have HG := Lib.hid hg0
    have hne : b ≠ a := by
      intro e
      obtain ⟨es, clock, h2, _⟩ := hown1
      have h3 := HB.out
      rw [← e, h2] at h3
      cases h3
    have hn1 : nn < maxLen := by omega
    clear hg0
    go_enter Tryd.func35, Tryd.ntmps35
    go_wp2_with (at_mapUpdate; refine wpList_mapUpdate_own _ rfl _ _ _ 43 rfl 9 48 keyedS Tryd.underlying43 _ b nn D rfl hown1 hn1 _ _ (.string s.data.toList) rfl rfl hkey (.lit (.int .i64 kb)) [] hval ?_; intro w1 h1 g1)
    go_end0
    rw [← HQ.out]
    refine ⟨rfl, some b, ?_, Kids.of_put h1 (by omega) (hown1.isMap) HG.out (fun x => rfl), Only.of_grown g1 (fun k e => by cases e; exact .inr rfl), .inl ⟨rfl, rfl⟩⟩
    rw [g1.block a (blk_lt HB.out) (by simpa using hne.symm), HB.out]
    congr 3
    have h4 := HC.out
    refine List.ext_getElem? fun i => ?_
    rw [List.getElem?_set]
    by_cases hi : 3 = i
    · subst hi
      rw [if_pos rfl, h4]
      have : 3 < cs.length := by
        by_cases hl : 3 < cs.length
        · exact hl
        · rw [List.getElem?_eq_none (by omega)] at h4; cases h4
      simp [this]
    · rw [if_neg hi]
end Go.Proofs.YtcmjpkfinbakkaaDoor

namespace Go.Proofs.YtcmjpkfinbakkaaDoor
open Go.RowKit Go.Maps Go.ChangeMaps
set_option linter.unusedVariables false
/-- Where the way to a place ends: 0, or 6 (there is no node), or 11 (a file is on the way). -/
def wayE (T : Tr) : Pth → Pth → Nat
  | _, [] => 0
  | _, [_] => 0
  | pre, k :: l :: r => match T (pre ++ [k]) with
    | none => 6
    | some n => if n.file = true then 11 else wayE T (pre ++ [k]) (l :: r)
def spotV (d : Value) (nm : ByteArray) (n : Value) (ns : Value) : Value := .agg #[d, .string nm, n, ns]
def spot0 : Value := spotV (.pointer none) ⟨#[]⟩ (.pointer none) (.slice none 0 0)
theorem below_drewN {a w : World} (h : Below a.heap.size a w) (n : Nat) : Below a.heap.size a (w.drewN n) := ⟨h.os, h.tape, h.output, h.size, h.block⟩
set_option maxRecDepth 100000 in
set_option maxHeartbeats 2000000 in
theorem walk_root (f : Nat) (Ad : Option Addr) (c : Nat) (w : World) :
    Calls Tryd.prog 33 #[.pointer (some ⟨f, 0, none⟩), .slice Ad 0 c] w fun e w' => e = .returned (.tuple #[spotV (.pointer none) ⟨#[]⟩ (.pointer (some ⟨f, 0, none⟩)) (.slice none 0 0), .int .i64 0]) ∧ Below w.heap.size w w' := by
  go_enter Tryd.func33, Tryd.ntmps33
  go_wp2_with fail
  refine wp_scope_straight ?_
  go_wp2_with fail
  simp +zetaDelta only [Exit.noGoto_ret]
  refine bodyPost_ret (v := .tuple #[spotV (.pointer none) ⟨#[]⟩ (.pointer (some ⟨f, 0, none⟩)) (.slice none 0 0), .int .i64 0]) ?_ rfl ?_
  · simp [results, Tryd.results65, go_sem]
    rfl
  · exact ⟨rfl, (Below.refl _ _).alloc (Nat.le_refl _) _⟩
theorem below4 {w W : World} (h : Below w.heap.size w W) (v0 v1 v2 v3 : Value) : Below w.heap.size w ((((W.setCell ⟨w.heap.size, 0, none⟩ v0).setCell ⟨w.heap.size, 1, none⟩ v1).setCell ⟨w.heap.size, 2, none⟩ v2).setCell ⟨w.heap.size, 3, none⟩ v3) :=
  (((h.setCell (p := ⟨w.heap.size, 0, none⟩) (Nat.le_refl _) v0).setCell (p := ⟨w.heap.size, 1, none⟩) (Nat.le_refl _) v1).setCell (p := ⟨w.heap.size, 2, none⟩) (Nat.le_refl _) v2).setCell (p := ⟨w.heap.size, 3, none⟩) (Nat.le_refl _) v3
/-- What the walk's end says: the place's spot. -/
def WalkP (T : Tr) (A : Pth → Nat) (M : Pth → Option Nat) (L : Pth) (nv : Value) (w : World) (e : Ending) (w' : World) : Prop :=
  Below w.heap.size w w' ∧ ((wayE T [] L ≠ 0 ∧ e = .returned (.tuple #[spot0, .int .i64 (wayE T [] L)])) ∨
    (wayE T [] L = 0 ∧ ∃ d k dn, L = d ++ [k] ∧ T d = some dn ∧ dn.file = false ∧ e = .returned (.tuple #[spotV (.pointer (some ⟨A d, 0, none⟩)) ⟨k.toArray⟩ (ptrV (kidsOf T A d k)) nv, .int .i64 0])))
theorem wayE_step {T : Tr} {L : Pth} {i : Nat} (hi : i + 1 < L.length) (pre : Pth) : wayE T pre (L.drop i) = match T (pre ++ [L[i]]) with
    | none => 6
    | some n => if n.file = true then 11 else wayE T (pre ++ [L[i]]) (L.drop (i + 1)) := by
  rw [List.drop_eq_getElem_cons (by omega), List.drop_eq_getElem_cons (l := L) (i := i + 1) (by omega)]
  rfl
theorem wayE_last {T : Tr} {L : Pth} {i : Nat} (hi : i + 1 = L.length) (pre : Pth) : wayE T pre (L.drop i) = 0 := by
  rw [List.drop_eq_getElem_cons (by omega), List.drop_eq_nil_of_le (by omega)]
  rfl
set_option maxRecDepth 100000 in
set_option maxHeartbeats 4000000 in
theorem walk_any (f g c base n0 : Nat) (L : Pth) (w : World) {B N : Nat} {tl : List Value} {T : Tr} {A : Pth → Nat} {M : Pth → Option Nat} {V : Pth → Value} (hT : TreeAt w B N f 47 tl T A M V) {r0 : Nd} (h0 : T [] = some r0) (hr0 : r0.file = false)
    (hL : 0 < L.length) (hL2 : L.length ≤ 1000000) (hc : L.length ≤ c) (hS : ∀ i (h : i < L.length), w.cell? ⟨g, i, none⟩ = some (.string ⟨L[i].toArray⟩)) (hs : ∀ x ∈ L, x.length ≤ maxLen) :
    Calls Tryd.prog 33 #[.pointer (some ⟨f, 0, none⟩), .slice (some ⟨g, 0, none⟩) L.length c] w (WalkP T A M L (.slice (some ⟨g, 0, none⟩) L.length c) w) := by
  have hsl := slice_last g L.length c hL hc
  have HT := Lib.hid hT
  have HS := Lib.hid hS
  have Hs := Lib.hid hs
  have hq := hS (L.length - 1) (by omega)
  obtain ⟨n1, hn1⟩ : ∃ n1, n1 + 1 = L.length := ⟨L.length - 1, by omega⟩
  obtain ⟨ln, hln⟩ : ∃ ln, L.length = ln := ⟨_, rfl⟩
  have HLN := Lib.hid hln
  have H0 := Lib.hid h0
  have hd0 : ((ln : Int) == 0) = false := by simp; omega
  have hwr : IntKind.i64.wrap ((ln : Int) - 1) = (n1 : Int) := by rw [show (ln : Int) - 1 = (n1 : Int) by omega]; exact IntWalk.i64_in _ (by omega)
  obtain ⟨lst, hlst⟩ : ∃ lst : Bz, L[n1]'(by omega) = lst := ⟨_, rfl⟩
  have hq2 : w.cell? ⟨g, n1, none⟩ = some (.string ⟨lst.toArray⟩) := by rw [← hlst]; exact hS n1 (by omega)
  have HLST := Lib.hid hlst
  rw [hln] at hsl hn1 ⊢
  have hsl2 : ∀ w, (Instr.slice 29 (.slice (some ⟨g, 0, none⟩) ln c) none (some (.int .i64 (n1 : Int))) none).run Tryd.prog w = .ok (.slice (some ⟨g, 0, none⟩) n1 c) w := by
    intro w
    have := hsl w
    rw [show ((ln : Int) - 1) = (n1 : Int) by omega, show ln - 1 = n1 by omega] at this
    exact this
  have hg : g < w.heap.size := by
    by_cases h : g < w.heap.size
    · exact h
    · have := hq2
      simp only [World.cell?, Array.getElem?_eq_none (Nat.le_of_not_lt h)] at this
      cases this
  have hn1c : (n1 : Int) < (ln : Int) := by omega
  have hn10 : (0 : Int) ≤ (n1 : Int) := by omega
  clear hsl hq hT hS hs hlst h0
  go_enter Tryd.func33, Tryd.ntmps33
  go_wp2_with fail
  refine wp_scope_straight ?_
  go_wp2_with fail
  have hq3 : (w.alloc (.cells #[.pointer none, .string ⟨#[]⟩, .pointer none, .slice none 0 0] 50)).cell? ⟨g, n1, none⟩ = some (.string ⟨lst.toArray⟩) := by
    rw [World.cell?_alloc_old _ _ _ (Nat.ne_of_lt hg)]; exact hq2
  go_quiet (fail)
  obtain ⟨W, hW⟩ : ∃ W, (w.alloc (.cells #[.pointer none, .string ⟨#[]⟩, .pointer none, .slice none 0 0] 50)).drewN nq = W := ⟨_, rfl⟩
  rw [hW]
  have hbel : Below w.heap.size w W := by
    rw [← hW]
    exact below_drewN ((Below.refl _ _).alloc (Nat.le_refl _) _) _
  have hbox : W.heap[w.heap.size]? = some (.cells [.pointer none, .string ⟨#[]⟩, .pointer none, .slice none 0 0].toArray 50 (0, 0)) := by
    rw [← hW]
    exact heap_alloc_new w _
  have HTW := Lib.hid (HT.out.only (X := fun _ => False) (Only.of_below hbel) (fun _ h => h.elim))
  have hSW : ∀ i (h : i < L.length), W.cell? ⟨g, i, none⟩ = some (.string ⟨L[i].toArray⟩) := fun i h => (hbel.cell (p := ⟨g, i, none⟩) hg).trans (HS.out i h)
  have HSW := Lib.hid hSW
  have q0 := cell_of hbox 0
  have q1 := cell_of hbox 1
  have q2 := cell_of hbox 2
  have q3 := cell_of hbox 3
  have r0' := free_of hbox 0
  have r1' := free_of hbox 1
  have r2' := free_of hbox 2
  have r3' := free_of hbox 3
  simp only [List.getElem?_cons_zero, List.getElem?_cons_succ] at q0 q1 q2 q3
  have HBOX := Lib.hid hbox
  have HBEL := Lib.hid hbel
  have hwW : w.heap.size < W.heap.size := blk_lt hbox
  have key : ∀ p n (x : Bz), x.length ≤ maxLen → T p = some n → W.cell? ⟨A p, 3, none⟩ = some (.map (M p)) ∧ W.cell? ⟨A p, 0, none⟩ = some (.bool n.file) ∧ (Instr.lookup 43 (.map (M p)) (.string ⟨x.toArray⟩) false).run Tryd.prog W = .ok (ptrV (kidsOf T A p x)) W := fun p n x hx hp => by
    have hb := HTW.out.blk p n hp
    refine ⟨(cell_of hb 3).trans rfl, (cell_of hb 0).trans rfl, ?_⟩
    have := (HTW.out.kids p n hp).look ⟨x.toArray⟩ (by simpa [ByteArray.size] using hx)
    simpa using this
  have KEY := Lib.hid key
  obtain ⟨E, hE⟩ : ∃ E, wayE T [] L = E := ⟨_, rfl⟩
  have HE := Lib.hid hE
  have HA0 := Lib.hid HT.out.a0
  have HQ : Hid (WalkP T A M L (.slice (some ⟨g, 0, none⟩) ln c) w = WalkP T A M L (.slice (some ⟨g, 0, none⟩) ln c) w) := rfl
  clear hW hbel hbox hSW key hE hq2 hq3
  go_wp2_with fail
  refine wp_label ?_
  go_wp2_with fail
  go_loopw [6, 7, 36] (fun at' er i wx => ∃ (k : Nat) (dn : Nd), k ≤ n1 ∧ i = .int .i64 k ∧ er = .int .i64 0 ∧ at' = .pointer (some ⟨A (L.take k), 0, none⟩) ∧ wx = W ∧ Hid (wayE T (L.take k) (L.drop k) = E ∧ T (L.take k) = some dn ∧ dn.file = false)) (fun _ _ i _ => n1 - (intOf i).toNat)
  case atStart => exact ⟨0, r0, Nat.zero_le _, rfl, rfl, by rw [List.take_zero, HA0.out], rfl, HE.out, H0.out, hr0⟩
  case round =>
    obtain ⟨k, dn, hk, rfl, rfl, rfl, rfl, HR⟩ := hrel
    have hkI : (0 : Int) ≤ (k : Int) := by omega
    by_cases hlt : k < n1
    · have hltI : (k : Int) < (n1 : Int) := by omega
      have hltd : decide ((k : Int) < (n1 : Int)) = true := decide_eq_true hltI
      have hkl : k + 1 < L.length := by have := HLN.out; omega
      have b1 : IntKind.i64.wrap ((k : Int) + 1) = (k : Int) + 1 := IntWalk.i64_in _ (by omega)
      obtain ⟨x, hx⟩ : ∃ x, L[k] = x := ⟨_, rfl⟩
      have hxs : x.length ≤ maxLen := Hs.out x (by rw [← hx]; exact List.getElem_mem _)
      have hcx := HSW.out k (by omega)
      rw [hx] at hcx
      obtain ⟨hm, _, hlk⟩ := KEY.out _ dn x hxs HR.out.2.1
      have hst := wayE_step (T := T) hkl (L.take k)
      rw [hx, HR.out.1] at hst
      have htk : L.take k ++ [x] = L.take (k + 1) := by rw [← hx]; exact List.take_append_getElem (by omega)
      rw [htk] at hst
      have adk := addK g k
      have hpre : 0 < k ∨ k = 0 := by omega
      cases hTx : T (L.take (k + 1)) with
      | none =>
        rw [hTx] at hst
        have hkv : kidsOf T A (L.take k) x = none := by unfold kidsOf; rw [htk, hTx]; rfl
        rw [hkv] at hlk
        simp only [ptrV] at hlk
        have HST := Lib.hid hst
        clear hst hTx hkv htk hx hpre
        go_wp2_with fail
        try simp +zetaDelta only [Exit.noGoto_ret]
        refine bodyPost_ret (v := .tuple #[spot0, .int .i64 6]) ?_ rfl ?_
        · simp [results, Tryd.results65, go_sem, q0, q1, q2, q3]
          rfl
        · refine ⟨?_, .inl ?_⟩
          · exact below4 HBEL.out _ _ _ _
          · have e6 : wayE T [] L = 6 := HE.out.trans HST.out
            rw [e6]; exact ⟨by decide, rfl⟩
      | some n =>
        rw [hTx] at hst
        dsimp only at hst
        have hkv : kidsOf T A (L.take k) x = some (A (L.take (k + 1))) := by unfold kidsOf; rw [htk, hTx]; rfl
        rw [hkv] at hlk
        simp only [ptrV] at hlk
        obtain ⟨hm2, hf2, _⟩ := KEY.out _ n x hxs hTx
        cases hnf : n.file with
        | true =>
          rw [hnf] at hf2
          rw [hnf, if_pos rfl] at hst
          have HST := Lib.hid hst
          clear hst hTx hkv htk hx hpre hm2
          go_wp2_with fail
          try simp +zetaDelta only [Exit.noGoto_ret]
          refine bodyPost_ret (v := .tuple #[spot0, .int .i64 11]) ?_ rfl ?_
          · simp [results, Tryd.results65, go_sem, q0, q1, q2, q3]
            rfl
          · refine ⟨?_, .inl ?_⟩
            · exact below4 HBEL.out _ _ _ _
            · have e6 : wayE T [] L = 11 := HE.out.trans HST.out
              rw [e6]; exact ⟨by decide, rfl⟩
        | false =>
          rw [hnf] at hf2
          rw [hnf, if_neg (by simp)] at hst
          have HST := Lib.hid hst
          have HTX := Lib.hid hTx
          have HNF := Lib.hid hnf
          clear hst hTx hkv htk hx hpre hm2 hnf
          go_wp2_with fail
          go_roundw
          case measure => simp [intOf]; omega
          case rel =>
           exact ⟨k + 1, n, by omega, by go_num, rfl, rfl, trivial, HST.out.symm, HTX.out, HNF.out⟩
    · obtain rfl : k = n1 := by omega
      have hltd : decide ((k : Int) < (k : Int)) = false := decide_eq_false (by omega)
      obtain ⟨hm, _, hlk⟩ := KEY.out _ dn lst (Hs.out lst (by rw [← HLST.out]; exact List.getElem_mem _)) HR.out.2.1
      obtain ⟨kv, hkv⟩ : ∃ kv, ptrV (kidsOf T A (L.take k) lst) = .pointer kv := by cases kidsOf T A (L.take k) lst <;> exact ⟨_, rfl⟩
      rw [hkv] at hlk
      have HKV := Lib.hid hkv
      clear hkv
      go_wp2_with fail
      simp +zetaDelta only [Exit.noGoto_ret]
      refine bodyPost_ret (v := .tuple #[spotV (.pointer (some ⟨A (L.take k), 0, none⟩)) ⟨lst.toArray⟩ (.pointer kv) (.slice (some ⟨g, 0, none⟩) ln c), .int .i64 0]) ?_ rfl ?_
      · simp [results, Tryd.results65, go_sem, q0, q1, q2, q3]
        rfl
      · refine ⟨?_, .inr ⟨?_, L.take k, lst, dn, ?_, HR.out.2.1, HR.out.2.2, ?_⟩⟩
        · exact below4 HBEL.out _ _ _ _
        · rw [HE.out, ← HR.out.1]
          exact wayE_last (by rw [hn1, HLN.out]) _
        · have := List.take_append_getElem (l := L) (i := k) (by omega)
          rw [HLST.out] at this
          rw [this, hn1, ← HLN.out, List.take_length]
        · rw [HKV.out]
end Go.Proofs.YtcmjpkfinbakkaaDoor
